
/- The model's l04Fits, FitsSystem. What TakeBlock answers: plain. impl.TakeBlock answers as the plain function takeF. The memory of a law across a drawn statement that makes a variable for a system. What DoubleSystem answers: plain. Rows of blocks that are written and sorted in place. append of many blocks to a list of the call's own. The contract of the sort, laid at the blocks. The program's systemFrom. -/
import Derived.Test.YtacfelgilphppaaJ7
import Derived.Deep.RegionHeld3
import Derived.Shelf.SlSortCmp.NoneTotal
import Derived.Deep.RegionLaw
import Derived.Deep.AppendLies
import Derived.Ground.SlsfProg
import Derived.Test.YtacfelgilphppaaProg
namespace Go.Proofs.Ytacfelgilphppaa
open Go.RowKit Go.Maps
theorem less_all (bo bs : List Blk) : decide ((lessL bo bs).length = 0) = bo.all fun x => decide (x ∈ bs) := by
  rw [Bool.eq_iff_iff, decide_eq_true_eq, List.length_eq_zero_iff, lessL, List.filter_eq_nil_iff, List.all_eq_true]
  simp
set_option maxRecDepth 100000 in
set_option maxHeartbeats 2000000 in
theorem l04Fits_any (v : Int) (s : Value) (bs : List Blk) (u : Int) (so : Value) (bo : List Blk) (si : Value) (bi : List Blk) (w : World) (h : SB w s bs) (k : TB w so bo si bi) :
    Calls Try.prog 132 #[.agg #[.int .i64 v, s], .agg #[.int .i64 u, so, si]] w (RV (.bool (fitB v bs u bo)) w) := by
  have hs := h.slice
  have h1 := k.1.slice
  have h2 := k.2.slice
  have hl := k.1.2.1
  have HMB := Lib.hid fun x W (hb : Below w.heap.size w W) => l01Has_any v s bs x W (h.below hb (Nat.le_refl _))
  have KSB := Lib.hid k.1
  clear h k
  obtain ⟨a, c, rfl⟩ := hs
  obtain ⟨a1, c1, rfl⟩ := h1
  obtain ⟨a2, c2, rfl⟩ := h2
  have HB := Lib.hid (BoxST.new w v (.slice a bs.length c) u (.slice a1 bo.length c1) (.slice a2 bi.length c2))
  have HBW := Lib.hid (wST_below w v (.slice a bs.length c) u (.slice a1 bo.length c1) (.slice a2 bi.length c2))
  unfold fitB
  rw [less_all]
  by_cases hvu : v = u
  · subst hvu
    rw [decide_eq_true rfl, Bool.true_and]
    have hnn : (v != v) = false := by simp
    go_enter Try.func132, Try.ntmps132
    go_wp2_with fail
    go_loopw [5] (fun i wr => ∃ k : Nat, k ≤ bo.length ∧ i = .int .i64 k ∧ BoxST wr w.heap.size v (.slice a bs.length c) v (.slice a1 bo.length c1) (.slice a2 bi.length c2) ∧ Below w.heap.size w wr ∧ Hid ((bo.take k).all (fun x => decide (x ∈ bs)) = true)) (fun i _ => bo.length - (intOf i).toNat)
    case atStart => exact ⟨0, Nat.zero_le _, rfl, HB.out, HBW.out, Lib.hid (by simp)⟩
    case round =>
      obtain ⟨k, hk, rfl, hB, hBw, HD⟩ := hrel
      have hlt := hB.lt
      have q0 := hB.x0
      have q1 := hB.x1
      have q2 := hB.y1
      have HBX := Lib.hid hB
      have HBB := Lib.hid hBw
      by_cases hkl : k < bo.length
      · rcases KSB.out.2.2 with ⟨_, _, _, hnil⟩ | ⟨b, off, cap, hval, hblt, hbl⟩
        · rw [hnil] at hkl; simp at hkl
        · simp at hval
          obtain ⟨rfl, rfl⟩ := hval
          obtain ⟨x, hx, ex, x1, x2, x3⟩ := blks_at (hbl.below hBw hblt) hkl
          have g0 : (0 : Int) ≤ (k : Int) := by omega
          have g1 : (k : Int) < (bo.length : Int) := by omega
          have hnx : bo.take (k + 1) = bo.take k ++ [x] := by
            have e : bo[k] = x := by
              rw [List.getElem?_eq_getElem hkl] at ex
              simpa using ex
            rw [take_next hkl, e]
          have HNX := Lib.hid hnx
          have HX := Lib.hid hx
          have hmb := HMB.out x
          obtain ⟨p, q, r⟩ := x
          unfold bv at hmb
          dsimp only at hmb x1 x2 x3
          clear hnx hx ex hbl hB hBw
          by_cases hin : (⟨p, q, r⟩ : Blk) ∈ bs
          · rw [decide_eq_true hin] at hmb
            have HI := Lib.hid hin
            have HMX := Lib.hid hmb
            clear hin hmb
            go_upto_region 6 with fail
            go_cut [25] (fun o wx => o = .bool false ∧ BoxST wx w.heap.size v (.slice a bs.length c) v (.slice (some ⟨b, off, none⟩) bo.length c1) (.slice a2 bi.length c2) ∧ Below w.heap.size w wx)
            case first =>
              go_region_with (go_at_call 96; refine (HMX.out _ HBB.out.drew).mono ?_; rintro e w4 ⟨rfl, hb4⟩)
              all_goals
                go_wp2_with fail
                go_meet
                exact ⟨rfl, HBX.out.below (((Below.refl _ _).drew).trans hb4), HBB.out.drew.trans (hb4.mono HBB.out.size)⟩
            case rest =>
            obtain ⟨rfl, hbx, hbw⟩ := hcut
            have HBX1 := Lib.hid hbx
            have HBB1 := Lib.hid hbw
            clear hbx hbw
            go_wp2
            go_roundw
            case rel => exact ⟨k + 1, by omega, by go_num, HBX1.out, HBB1.out, Lib.hid (by
              have := HD.out
              rw [HNX.out, List.all_append, this]
              simpa using HI.out)⟩
            case measure => simp [intOf]; omega
          · rw [decide_eq_false hin] at hmb
            have HI := Lib.hid hin
            have HMX := Lib.hid hmb
            clear hin hmb
            go_upto_region 6 with fail
            go_cut [25] (fun o wx => o = .bool true ∧ Below w.heap.size w wx)
            case first =>
              go_region_with (go_at_call 96; refine (HMX.out _ HBB.out.drew).mono ?_; rintro e w4 ⟨rfl, hb4⟩)
              all_goals
                go_wp2_with fail
                go_meet
                exact ⟨rfl, HBB.out.drew.trans (hb4.mono HBB.out.size)⟩
            case rest =>
            obtain ⟨rfl, hbw⟩ := hcut
            go_wp2
            go_ret
            refine RV_of (bool_eq ?_) hbw
            symm
            rw [List.all_eq_false]
            exact ⟨_, HX.out, by simpa using HI.out⟩
      · go_wp2
        go_ret
        have e : k = bo.length := by omega
        subst e
        refine RV_of (bool_eq ?_) HBB.out
        have := HD.out
        rw [List.take_length] at this
        exact this.symm
  · rw [decide_eq_false hvu, Bool.false_and]
    have hne : (v != u) = true := by simpa using hvu
    go_enter Try.func132, Try.ntmps132
    go_wp2
    go_ret
    exact RV_of rfl HBW.out
set_option maxRecDepth 100000 in
set_option maxHeartbeats 2000000 in
theorem specFitsSystem_any (v : Int) (s : Value) (bs : List Blk) (u : Int) (so : Value) (bo : List Blk) (si : Value) (bi : List Blk) (w : World) (h : SB w s bs) (k : TB w so bo si bi) :
    Calls Try.prog 73 #[.agg #[.int .i64 v, s], .agg #[.int .i64 u, so, si]] w (RV (boolCode (fitF v bs u bo bi).1 (fitF v bs u bo bi).2) w) := by
  have hs := h.slice
  have h1 := k.1.slice
  have h2 := k.2.slice
  have HI := Lib.hid fun W (hb : Below w.heap.size w W) => l01Is_any v s bs W (h.below hb (Nat.le_refl _))
  have HT := Lib.hid fun W (hb : Below w.heap.size w W) => l04Is_any u so bo si bi W (k.below hb (Nat.le_refl _))
  have HF := Lib.hid fun W (hb : Below w.heap.size w W) => l04Fits_any v s bs u so bo si bi W (h.below hb (Nat.le_refl _)) (k.below hb (Nat.le_refl _))
  clear h k
  obtain ⟨a, c, rfl⟩ := hs
  obtain ⟨a1, c1, rfl⟩ := h1
  obtain ⟨a2, c2, rfl⟩ := h2
  have HB := Lib.hid (BoxST.new w v (.slice a bs.length c) u (.slice a1 bo.length c1) (.slice a2 bi.length c2))
  have HBW := Lib.hid (wST_below w v (.slice a bs.length c) u (.slice a1 bo.length c1) (.slice a2 bi.length c2))
  unfold fitF boolCode
  cases hi : isSysImpl v bs with
  | false =>
    rw [hi] at HI
    rw [Bool.false_and, if_neg (by simp)]
    clear hi HT HF
    go_enter Try.func73, Try.ntmps73
    go_wp2_with fail
    refine (HI.out (wST w v (.slice a bs.length c) u (.slice a1 bo.length c1) (.slice a2 bi.length c2)) HBW.out).mono ?_
    rintro e w1 ⟨rfl, hb1⟩
    have hB1 := HBW.out.trans (hb1.mono HBW.out.size)
    clear hb1
    go_wp2
    go_ret2
    exact RV_of rfl hB1
  | true =>
    rw [hi] at HI
    rw [Bool.true_and]
    clear hi
    cases ht : trdB u bo bi with
    | false =>
      rw [ht] at HT
      rw [if_neg (by simp)]
      clear ht HF
      go_enter Try.func73, Try.ntmps73
      go_wp2_with fail
      refine (HI.out (wST w v (.slice a bs.length c) u (.slice a1 bo.length c1) (.slice a2 bi.length c2)) HBW.out).mono ?_
      rintro e w1 ⟨rfl, hb1⟩
      obtain ⟨_, x0, x1, y0, y1, y2⟩ := HB.out.below hb1
      have hB1 := HBW.out.trans (hb1.mono HBW.out.size)
      clear hb1
      go_wp2_with fail
      refine (HT.out _ hB1).mono ?_
      rintro e w2 ⟨rfl, hb2⟩
      have hB2 := hB1.trans (hb2.mono hB1.size)
      clear hb2
      go_wp2
      go_ret2
      exact RV_of rfl hB2
    | true =>
      rw [ht] at HT
      rw [if_pos rfl]
      obtain ⟨β, hβ⟩ : ∃ β, β = fitB v bs u bo := ⟨_, rfl⟩
      rw [← hβ] at HF ⊢
      clear ht hβ
      go_enter Try.func73, Try.ntmps73
      go_wp2_with fail
      refine (HI.out (wST w v (.slice a bs.length c) u (.slice a1 bo.length c1) (.slice a2 bi.length c2)) HBW.out).mono ?_
      rintro e w1 ⟨rfl, hb1⟩
      have hbx1 := HB.out.below hb1
      obtain ⟨_, x0, x1, y0, y1, y2⟩ := id hbx1
      have HBX1 := Lib.hid hbx1
      have HB1 := Lib.hid (HBW.out.trans (hb1.mono HBW.out.size))
      clear hb1 hbx1
      go_wp2_with fail
      refine (HT.out _ HB1.out).mono ?_
      rintro e w2 ⟨rfl, hb2⟩
      have hbx2 := HBX1.out.below hb2
      clear x0 x1 y0 y1 y2
      obtain ⟨hlt2, x0, x1, y0, y1, y2⟩ := id hbx2
      have HBX2 := Lib.hid hbx2
      have HB2 := Lib.hid (HB1.out.trans (hb2.mono HB1.out.size))
      clear hb2 hbx2
      go_wp2_with fail
      refine (HF.out _ HB2.out).mono ?_
      rintro e w3 ⟨rfl, hb3⟩
      have hB3 := HB2.out.trans (hb3.mono HB2.out.size)
      clear hb3
      go_wp2
      go_ret2
      exact RV_of rfl hB3
end Go.Proofs.Ytacfelgilphppaa

namespace Go.Proofs.Ytacfelgilphppaa
/-- A system and a code: points, blocks, code. -/
def takeF (v : Int) (bs : List Blk) (i : Int) : Int × List Blk × Int :=
  if isSysImpl v bs then (if decide (0 ≤ i) && decide (i < (bs.length : Int)) then (v, bs.take i.toNat ++ bs.drop (i.toNat + 1), 0) else (0, [], 2)) else (0, [], 1)
theorem filter_all {p : Blk → Bool} : ∀ {l : List Blk}, (∀ x ∈ l, p x = true) → l.filter p = l
  | [], _ => rfl
  | x :: r, h => by rw [List.filter_cons, if_pos (h x (by simp)), filter_all (fun y hy => h y (by simp [hy]))]
/-- The blocks that are not the i-th. -/
theorem filter_other {bs : List Blk} (h : bs.Nodup) {i : Nat} (hi : i < bs.length) : bs.filter (fun x => !decide (x = bs[i])) = bs.take i ++ bs.drop (i + 1) := by
  have e : bs = bs.take i ++ bs[i] :: bs.drop (i + 1) := by rw [← List.drop_eq_getElem_cons hi, List.take_append_drop]
  obtain ⟨y, hy⟩ : ∃ y, y = bs[i] := ⟨_, rfl⟩
  rw [← hy] at e ⊢
  clear hy
  obtain ⟨p, hp⟩ : ∃ p, p = bs.take i := ⟨_, rfl⟩
  obtain ⟨q, hq⟩ : ∃ q, q = bs.drop (i + 1) := ⟨_, rfl⟩
  rw [← hp, ← hq] at e ⊢
  clear hp hq hi
  subst e
  obtain ⟨h1, h2, h3⟩ := List.nodup_append.1 h
  rw [List.nodup_cons] at h2
  rw [List.filter_append, List.filter_cons, if_neg (by simp)]
  rw [filter_all (fun x hx => by have := h3 x hx y (by simp); simpa using this), filter_all (fun x hx => by
    have : x ≠ y := fun e => h2.1 (e ▸ hx)
    simpa using this)]
theorem takeF_sub (v : Int) (bs : List Blk) (i : Int) : ∀ x ∈ (takeF v bs i).2.1, x ∈ bs := by
  unfold takeF
  split
  · split
    · intro x hx
      rcases List.mem_append.1 hx with h | h
      · exact List.mem_of_mem_take h
      · exact List.mem_of_mem_drop h
    · simp
  · simp
theorem takeF_len (v : Int) (bs : List Blk) (i : Int) : (takeF v bs i).2.1.length ≤ bs.length := by
  unfold takeF
  split
  · split
    · simp
      omega
    · simp
  · simp
end Go.Proofs.Ytacfelgilphppaa

namespace Go.Proofs.Ytacfelgilphppaa
open Go.RowKit Go.Maps
/-- Two results: a system in new memory, and a code. -/
def RSys (r : Int × List Blk × Int) (w : World) (e : Ending) (w' : World) : Prop := ∃ s, e = .returned (.tuple #[.agg #[.int .i64 r.1, s], .int .i64 r.2.2]) ∧ ResR w' w.heap.size w'.heap.size s r.2.1 ∧ Below w.heap.size w w'
theorem boxes2 {w w1 : World} {v : Int} {s : Value} {T : TypeId} (hb : Below ((w.alloc (.cells #[.int .i64 v, s] T)).alloc (.cells #[.int .i64 0, .slice none 0 0] T)).heap.size ((w.alloc (.cells #[.int .i64 v, s] T)).alloc (.cells #[.int .i64 0, .slice none 0 0] T)) w1) :
    w1.cell? ⟨w.heap.size, 0, none⟩ = some (.int .i64 v) ∧ w1.cell? ⟨w.heap.size, 1, none⟩ = some s ∧ w1.cell? ⟨w.heap.size + 1, 0, none⟩ = some (.int .i64 0) ∧ w1.cell? ⟨w.heap.size + 1, 1, none⟩ = some (.slice none 0 0) ∧
    w1.frozen? ⟨w.heap.size + 1, 0, none⟩ = false ∧ w1.frozen? ⟨w.heap.size + 1, 1, none⟩ = false ∧ Below w.heap.size w w1 ∧ w.heap.size + 1 < w1.heap.size := by
  have hz := hb.size
  simp at hz
  refine ⟨?_, ?_, ?_, ?_, ?_, ?_, (((Below.refl _ _).alloc (Nat.le_refl _) _).alloc (by simp) _).trans (hb.mono (by simp; omega)), by omega⟩
  · exact (hb.cell (p := ⟨w.heap.size, 0, none⟩) (by simp; omega)).trans (by simp [go_sem])
  · exact (hb.cell (p := ⟨w.heap.size, 1, none⟩) (by simp; omega)).trans (by simp [go_sem])
  · exact (hb.cell (p := ⟨w.heap.size + 1, 0, none⟩) (by simp)).trans (by simp [go_sem])
  · exact (hb.cell (p := ⟨w.heap.size + 1, 1, none⟩) (by simp)).trans (by simp [go_sem])
  · exact (hb.frozen (p := ⟨w.heap.size + 1, 0, none⟩) (by simp)).trans (by simp [go_sem])
  · exact (hb.frozen (p := ⟨w.heap.size + 1, 1, none⟩) (by simp)).trans (by simp [go_sem])
theorem below2 (w : World) (v : Int) (s : Value) (T : TypeId) : Below w.heap.size w ((w.alloc (.cells #[.int .i64 v, s] T)).alloc (.cells #[.int .i64 0, .slice none 0 0] T)) := ((Below.refl _ _).alloc (Nat.le_refl _) _).alloc (by simp) _
theorem below_set2 {B : Nat} {a w : World} (h : Below B a w) {b : Nat} (hb : B ≤ b) (u v : Value) : Below B a ((w.setCell ⟨b, 0, none⟩ u).setCell ⟨b, 1, none⟩ v) := (h.setCell (p := ⟨b, 0, none⟩) hb u).setCell (p := ⟨b, 1, none⟩) hb v
theorem gb_set2 (w : World) (b : Nat) (u v : Value) : w.grownBy ((w.setCell ⟨b, 0, none⟩ u).setCell ⟨b, 1, none⟩ v) (some b) := only_setCell (only_setCell (only_refl w (some b)) rfl u) rfl v
end Go.Proofs.Ytacfelgilphppaa

namespace Go.Proofs.Ytacfelgilphppaa
open Go.RowKit Go.Maps
/-- A variable for a system that has been made and not yet been stored into. -/
structure ZBox (W : World) (X : Nat) : Prop where
  c0 : W.cell? ⟨X, 0, none⟩ = some (.int .i64 0)
  c1 : W.cell? ⟨X, 1, none⟩ = some (.slice none 0 0)
  f0 : W.frozen? ⟨X, 0, none⟩ = false
  f1 : W.frozen? ⟨X, 1, none⟩ = false
def zeroSys : Obj := .cells #[.int .i64 0, .slice none 0 0] 31
theorem ZBox.fresh (W : World) : ZBox (W.alloc (.cells #[.int .i64 0, .slice none 0 0] 31)) W.heap.size := by constructor <;> simp [go_sem]
theorem ZBox.kept {W W' : World} {X : Nat} (h : ZBox W X) (hg : W.grownBy W' none) : ZBox W' X := by
  have hb := hg.block X (World.block_lt_of_cell? W ⟨X, 0, none⟩ h.c0) (by simp)
  exact ⟨hg.cell h.c0 (by simp), hg.cell h.c1 (by simp), (World.frozen?_of_block (a := ⟨X, 0, none⟩) hb).trans h.f0, (World.frozen?_of_block (a := ⟨X, 1, none⟩) hb).trans h.f1⟩
theorem ZBox.lt {W : World} {X : Nat} (h : ZBox W X) : X < W.heap.size := World.block_lt_of_cell? W ⟨X, 0, none⟩ h.c0
theorem gb_tr {a b c : World} (h : a.grownBy b none) (k : b.grownBy c none) : a.grownBy c none := gb_trans h k
section
variable {w W0 Wp W : World} {I : List Item} {X lo : Nat} {p : Int} {s : Value} {L : List Blk}
/-- The variable was made ahead of the result: W0 before the statement, Wp where the result's call begins, W behind it; X the variable. -/
theorem Mem.early (h : Mem w I W0) (g0 : W0.grownBy Wp none) (hX0 : W0.heap.size ≤ X) (hX : X < Wp.heap.size) (hz : ZBox Wp X) (hb : Below Wp.heap.size Wp W) (hr : ResR W Wp.heap.size W.heap.size s L) :
    Mem w (iVar X p s :: iBlks Wp.heap.size W.heap.size s L :: I) ((W.setCell ⟨X, 0, none⟩ (.int .i64 p)).setCell ⟨X, 1, none⟩ s) := by
  have h1 : Mem w (iVar X 0 (.slice none 0 0) :: I) Wp := h.push g0 (iVar X 0 (.slice none 0 0)) hX0 (Nat.le_succ _) hX (iVar_ok _ _ _) ⟨hX, hz.c0, hz.c1⟩
  have h2 := h1.pushB hb hr
  have hz2 := hz.kept (gb_below hb)
  have hgs := gb_set2 W X (.int .i64 p) s
  have h3 := h2.mark 1 rfl (OnlyIn.of_grown (lo := X) (hi := X + 1) hgs (fun r e => by cases e; omega)) (P' := fun W => VarB W X p s) (iVar_ok X p s) ⟨by simpa [World.setCell] using hz2.lt, ?_, ?_⟩
  · exact h3.swap
  · rw [World.cell?_setCell_other _ _ _ _ (by simp), World.cell?_setCell_same' _ _ _ (by rw [hz2.c0]; rfl)]
  · rw [World.cell?_setCell_same' _ _ _ (by rw [World.cell?_setCell_other _ _ _ _ (by simp), hz2.c1]; rfl)]
/-- The variable was made behind the result. -/
theorem Mem.late (h : Mem w I W0) (g0 : W0.grownBy Wp none) (hb : Below Wp.heap.size Wp W) (hr : ResR W Wp.heap.size W.heap.size s L) :
    Mem w (iVar W.heap.size p s :: iBlks Wp.heap.size W.heap.size s L :: I) (W.alloc (.cells #[.int .i64 p, s] 31)) :=
  ((h.step g0).pushB hb hr).pushVar p s _
theorem Mem.drew (h : Mem w I W) : Mem w I W.drew := h.step (gb_drew1 _)
end
/-- Behind a drawn statement whose result is a system and a code. -/
def SysRel {w W0 : World} {I : List Item} (_ : Mem w I W0) (p : Int) (L : List Blk) (κ : Int) (bx kv : Value) (wx : World) : Prop :=
  ∃ X lo hi a n, bx = .pointer (some ⟨X, 0, none⟩) ∧ kv = .int .i64 κ ∧ Mem w (iVar X p (.slice a L.length n) :: iBlks lo hi (.slice a L.length n) L :: I) wx
section
variable {w W0 Wp W : World} {I : List Item} {X : Nat} {p κ : Int} {L : List Blk} {a : Option Addr} {n : Nat}
theorem SysRel.early (h : Mem w I W0) (g0 : W0.grownBy Wp none) (hX0 : W0.heap.size ≤ X) (hz : ZBox Wp X) (hb : Below Wp.heap.size Wp W) (hr : ResR W Wp.heap.size W.heap.size (.slice a L.length n) L) :
    SysRel h p L κ (.pointer (some ⟨X, 0, none⟩)) (.int .i64 κ) ((W.setCell ⟨X, 0, none⟩ (.int .i64 p)).setCell ⟨X, 1, none⟩ (.slice a L.length n)) :=
  ⟨X, _, _, a, n, rfl, rfl, h.early g0 hX0 hz.lt hz hb hr⟩
theorem SysRel.late (h : Mem w I W0) (g0 : W0.grownBy Wp none) (hb : Below Wp.heap.size Wp W) (hr : ResR W Wp.heap.size W.heap.size (.slice a L.length n) L) :
    SysRel h p L κ (.pointer (some ⟨W.heap.size, 0, none⟩)) (.int .i64 κ) (W.alloc (.cells #[.int .i64 p, .slice a L.length n] 31)) :=
  ⟨W.heap.size, _, _, a, n, rfl, rfl, h.late g0 hb hr⟩
theorem SysRel.drew {h : Mem w I W0} {bx kv : Value} (k : SysRel h p L κ bx kv W) : SysRel h p L κ bx kv W.drew := by
  obtain ⟨X, lo, hi, a, n, h1, h2, h3⟩ := k
  exact ⟨X, lo, hi, a, n, h1, h2, h3.step (gb_drew1 _)⟩
end
theorem keepset {W : World} {X q o : Nat} {u a b : Value} (h : W.cell? ⟨q, o, none⟩ = some u) (hq : q < X) : ((W.setCell ⟨X, 0, none⟩ a).setCell ⟨X, 1, none⟩ b).cell? ⟨q, o, none⟩ = some u :=
  (gb_set2 W X a b).cell h (by simp; omega)
end Go.Proofs.Ytacfelgilphppaa

namespace Go.Proofs.Ytacfelgilphppaa
def dblB (v : Int) (x : Blk) : List Blk := [⟨x.a, v + x.b, v + x.c⟩, ⟨x.b, v + x.a, v + x.c⟩, ⟨x.c, v + x.a, v + x.b⟩]
def dblP (v : Int) (k : Nat) : List Blk := (List.range k).map fun (a : Nat) => ⟨(a : Int), v + (a : Int), 2 * v⟩
theorem dblP_succ (v : Int) (k : Nat) : dblP v (k + 1) = dblP v k ++ [⟨(k : Int), v + (k : Int), 2 * v⟩] := by simp [dblP, List.range_succ]
theorem dblP_len (v : Int) (k : Nat) : (dblP v k).length = k := by simp [dblP]
def dblA (v : Int) (bs : List Blk) (k : Nat) : List Blk := bs ++ (bs.take k).flatMap (dblB v)
theorem dblA_succ {v : Int} {bs : List Blk} {k : Nat} (hk : k < bs.length) {x : Blk} (hx : bs[k]? = some x) : dblA v bs (k + 1) = dblA v bs k ++ dblB v x := by
  have e : bs[k] = x := by
    rw [List.getElem?_eq_getElem hk] at hx
    simpa using hx
  unfold dblA
  rw [List.take_succ_eq_append_getElem hk, e, List.flatMap_append, List.append_assoc]
  simp
theorem dblB_len (v : Int) : ∀ l : List Blk, (l.flatMap (dblB v)).length = 3 * l.length
  | [] => rfl
  | x :: r => by rw [List.flatMap_cons, List.length_append, dblB_len v r]; simp [dblB]; omega
theorem dblA_len (v : Int) (bs : List Blk) {k : Nat} (hk : k ≤ bs.length) : (dblA v bs k).length = bs.length + 3 * k := by
  unfold dblA
  rw [List.length_append, dblB_len, List.length_take, Nat.min_eq_left hk]
def dblL (v : Int) (bs : List Blk) : List Blk := dblA v bs bs.length ++ dblP v v.toNat
theorem dblL_len (v : Int) (bs : List Blk) : (dblL v bs).length = bs.length + 3 * bs.length + v.toNat := by
  unfold dblL
  rw [List.length_append, dblA_len v bs (Nat.le_refl _), dblP_len]
theorem dblL_mem {v : Int} (hv : 0 ≤ v) (hv15 : v ≤ 15) {bs : List Blk} (hg : ∀ x ∈ bs, goodB v x = true) : ∀ x ∈ dblL v bs, (0 ≤ x.a ∧ x.a ≤ 1000) ∧ (0 ≤ x.b ∧ x.b ≤ 1000) ∧ (0 ≤ x.c ∧ x.c ≤ 1000) := by
  intro x hx
  unfold dblL dblA at hx
  rw [List.take_length] at hx
  rcases List.mem_append.1 hx with hx | hx
  · rcases List.mem_append.1 hx with hx | hx
    · have := goodB_iff.1 (hg x hx); omega
    · obtain ⟨y, hy, hxy⟩ := List.mem_flatMap.1 hx
      have := goodB_iff.1 (hg y hy)
      simp only [dblB, List.mem_cons, List.not_mem_nil, or_false] at hxy
      rcases hxy with rfl | rfl | rfl <;> (dsimp only; omega)
  · obtain ⟨a, ha, rfl⟩ := List.mem_map.1 hx
    have := List.mem_range.1 ha
    dsimp only
    omega
/-- The smallest, the middle and the greatest of three. -/
def blk3 (a b c : Int) : Blk := ⟨min (min a b) c, a + b + c - min (min a b) c - max (max a b) c, max (max a b) c⟩
theorem blk3_of {a b c p q r : Int} (hp : p = min (min a b) c) (hr : r = max (max a b) c) (hq : q = a + b + c - p - r) : blk3 a b c = ⟨p, q, r⟩ := by
  unfold blk3
  rw [← hp, ← hr, ← hq]
end Go.Proofs.Ytacfelgilphppaa

namespace Go.Proofs.Ytacfelgilphppaa
open Go.RowKit Go.Maps Go.Sort
theorem heap_set_own {w : World} {g o : Nat} {u : Value} {cs : Array Value} {e : TypeId} {fr : Nat × Nat} (h : w.heap[g]? = some (.cells cs e fr)) : (w.setCell ⟨g, o, none⟩ u).heap[g]? = some (.cells (cs.setIfInBounds o u) e fr) := by
  obtain ⟨hlt, hk⟩ := Array.getElem?_eq_some_iff.1 h
  show (w.heap.modify g _)[g]? = _
  rw [Array.getElem?_eq_getElem (by rw [Array.size_modify]; exact hlt), Array.getElem_modify_self, hk]
  rfl
theorem flat_set : ∀ (bs : List Blk) (i : Nat) (x : Blk), i < bs.length → (((bs.flatMap cells3).set (i * 3) (.int .i64 x.a)).set (i * 3 + 1) (.int .i64 x.b)).set (i * 3 + 2) (.int .i64 x.c) = (bs.set i x).flatMap cells3
  | [], _, _, h => by simp at h
  | y :: r, 0, x, _ => by simp [cells3]
  | y :: r, i + 1, x, h => by
    have ih := flat_set r i x (by simpa using h)
    rw [List.set_cons_succ, List.flatMap_cons, List.flatMap_cons, ← ih]
    rw [show (i + 1) * 3 = i * 3 + 1 + 1 + 1 by omega, show i * 3 + 1 + 1 + 1 + 1 = i * 3 + 1 + 1 + 1 + 1 from rfl, show i * 3 + 1 + 1 + 1 + 2 = i * 3 + 2 + 1 + 1 + 1 by omega]
    simp only [cells3, List.cons_append, List.nil_append, List.set_cons_succ]
theorem OwnR.set3 {w : World} {base g n cap : Nat} {bs : List Blk} (h : OwnR w base (.slice (some ⟨g, 0, none⟩) n cap) bs) {i : Nat} (hi : i < bs.length) (x : Blk) :
    OwnR (((w.setCell ⟨g, i * 3, none⟩ (.int .i64 x.a)).setCell ⟨g, i * 3 + 1, none⟩ (.int .i64 x.b)).setCell ⟨g, i * 3 + 2, none⟩ (.int .i64 x.c)) base (.slice (some ⟨g, 0, none⟩) n cap) (bs.set i x) := by
  obtain ⟨hl, h | ⟨g', cap', cur, hv, hb, hcur, hn, hc, hsz, hx⟩⟩ := h
  · cases h.1
  · cases hv
    refine ⟨by rw [flat_length, List.length_set], .inr ⟨g, cap, _, by rw [List.length_set], hb, heap_set_own (heap_set_own (heap_set_own hcur)), by rw [List.length_set]; exact hn, hc, by simpa using hsz, ?_⟩⟩
    rw [List.length_set, Array.toList_setIfInBounds, Array.toList_setIfInBounds, Array.toList_setIfInBounds, List.take_set, List.take_set, List.take_set, hx]
    exact flat_set bs i x hi
theorem OwnR.at_ {w : World} {base g n cap : Nat} {bs : List Blk} (h : OwnR w base (.slice (some ⟨g, 0, none⟩) n cap) bs) : n = bs.length ∧ base ≤ g ∧ OwnAt w g bs := by
  rcases h.res with ⟨rfl, a, c, e⟩ | ⟨g', cap', e, h1, h2, h3⟩
  · cases e
    obtain ⟨hl, h | ⟨g', cap', cur, hv, hb, hcur, hn, hc, hsz, hx⟩⟩ := h
    · cases h.1
    · cases hv
      exact ⟨rfl, hb, ⟨(Array.getElem?_eq_some_iff.1 hcur).1, fun k hk => by simp at hk, fun o => by simp [World.frozen?, hcur]⟩⟩
  · cases e
    exact ⟨rfl, h1, h3⟩

theorem heap_put {w : World} {g n : Nat} {os : Array Obj} {cur : Array Value} {e : TypeId} {fr : Nat × Nat} (F : Array Value) (hb : w.heap[g]? = some (.cells cur e fr)) :
    (grow (putRow id (Sort.ahead w n) g 0 F) os).heap[g]? = some (.cells (putCells id 0 F cur) e fr) := by
  have hg : g < w.heap.size := (Array.getElem?_eq_some_iff.1 hb).1
  rw [heap_grow_old _ _ (by simpa using hg)]
  simp [putRow, mapBlock, Sort.ahead, Array.getElem?_modify, hb, onCells]
theorem grownBy_put {w : World} {g n : Nat} {os : Array Obj} (F : Array Value) : w.grownBy (grow (putRow id (Sort.ahead w n) g 0 F) os) (some g) := by
  refine ⟨rfl, rfl, rfl, by simp, fun k hk hne => ?_⟩
  rw [heap_grow_old _ _ (by simpa using hk)]
  have : g ≠ k := fun e => hne (by rw [e])
  simp [putRow, mapBlock, Sort.ahead, Array.getElem?_modify, this]
theorem take_put (cur F : Array Value) (h : F.size ≤ cur.size) : (putCells id 0 F cur).toList.take F.size = F.toList := by
  apply List.ext_getElem?
  intro j
  by_cases hj : j < F.size
  · rw [List.getElem?_take_of_lt hj, Array.getElem?_toList]
    simp [putCells, hj, show j < cur.size by omega]
  · rw [List.getElem?_take_eq_none (by omega), List.getElem?_eq_none (by simp; omega)]
theorem cells3_at (x : Blk) : (cells3 x)[0]! = .int .i64 x.a ∧ (cells3 x)[1]! = .int .i64 x.b ∧ (cells3 x)[2]! = .int .i64 x.c := ⟨rfl, rfl, rfl⟩
theorem flatK_at (bs : List Blk) (j : Nat) (h : j < bs.length * 3) : (flatK cells3 3 bs.toArray)[j]! = (bs.flatMap cells3)[j]?.getD undef := by
  rw [get_flatK _ _ _ _ (by simpa using h)]
  have hk : j / 3 < bs.length := by omega
  obtain ⟨h0, h1, h2⟩ := flat_at bs (j / 3) hk
  obtain ⟨c0, c1, c2⟩ := cells3_at (bs.toArray[j / 3]!)
  have e : bs.toArray[j / 3]! = bs[j / 3]?.getD default := by simp [hk]
  rw [e] at c0 c1 c2
  rw [e]
  have hm : j % 3 = 0 ∨ j % 3 = 1 ∨ j % 3 = 2 := by omega
  rcases hm with hm | hm | hm
  · rw [hm, c0]; rw [show j / 3 * 3 = j by omega] at h0; rw [h0]; rfl
  · rw [hm, c1]; rw [show j / 3 * 3 + 1 = j by omega] at h1; rw [h1]; rfl
  · rw [hm, c2]; rw [show j / 3 * 3 + 2 = j by omega] at h2; rw [h2]; rfl
theorem flatK_list (bs : List Blk) : (flatK cells3 3 bs.toArray).toList = bs.flatMap cells3 := by
  apply List.ext_getElem?
  intro j
  by_cases hj : j < bs.length * 3
  · have h1 := flatK_at bs j hj
    have hs : j < (flatK cells3 3 bs.toArray).size := by rw [size_flatK]; simpa using hj
    rw [getElem!_pos _ j hs] at h1
    rw [Array.getElem?_toList, Array.getElem?_eq_getElem hs, h1]
    have hf : j < (bs.flatMap cells3).length := by rw [flat_length]; exact hj
    rw [List.getElem?_eq_getElem hf]
    rfl
  · have h1 : (flatK cells3 3 bs.toArray).toList.length = bs.length * 3 := by rw [Array.length_toList, size_flatK]; simp
    rw [List.getElem?_eq_none (by omega), List.getElem?_eq_none (by rw [flat_length]; omega)]
theorem OwnAt.holds {w : World} {g : Nat} {bs : List Blk} (h : OwnAt w g bs) : HoldsK cells3 3 w g 0 bs.toArray := by
  intro j hj
  rw [size_flatK, List.size_toArray] at hj
  refine ⟨?_, h.free _⟩
  rw [flatK_at bs j hj, Nat.zero_add]
  obtain ⟨h0, h1, h2⟩ := h.at_ (j / 3) (by omega)
  obtain ⟨f0, f1, f2⟩ := flat_at bs (j / 3) (by omega)
  rw [Nat.zero_add] at h0 h1 h2
  have hm : j % 3 = 0 ∨ j % 3 = 1 ∨ j % 3 = 2 := by omega
  rcases hm with hm | hm | hm
  · rw [show j / 3 * 3 = j by omega] at h0 f0; rw [h0, f0]; rfl
  · rw [show j / 3 * 3 + 1 = j by omega] at h1 f1; rw [h1, f1]; rfl
  · rw [show j / 3 * 3 + 2 = j by omega] at h2 f2; rw [h2, f2]; rfl
/-- Behind the sort the same slice owns the blocks in order. -/
theorem OwnR.sorted {w : World} {base g n cap : Nat} {bs cs : List Blk} (h : OwnR w base (.slice (some ⟨g, 0, none⟩) n cap) bs) (hl : cs.length = bs.length) (m : Nat) (os : Array Obj) :
    OwnR (sortWorldK cells3 3 w g 0 m cs.toArray os) base (.slice (some ⟨g, 0, none⟩) n cap) cs ∧ w.grownBy (sortWorldK cells3 3 w g 0 m cs.toArray os) (some g) := by
  refine ⟨?_, grownBy_put _⟩
  obtain ⟨hl2, h | ⟨g', cap', cur, hv, hb, hcur, hn, hc, hsz, hx⟩⟩ := h
  · cases h.1
  · cases hv
    have hF : (flatK cells3 3 cs.toArray).size = cs.length * 3 := by rw [size_flatK]; simp
    refine ⟨by rw [flat_length], .inr ⟨g, cap, _, by rw [hl], hb, heap_put _ hcur, by rw [hl]; exact hn, hc, by simp [putCells]; omega, ?_⟩⟩
    rw [← hF, take_put _ _ (by rw [hF, hl]; have := Nat.mul_le_mul_right 3 hn; omega)]
    exact flatK_list cs
theorem lt_bef (x y : Blk) : ltOf cmpB x y = befB x y := by
  unfold ltOf
  rw [Bool.eq_iff_iff, ← cmpB_neg]
  simp
theorem swoB : SWO (ltOf cmpB) where
  irrefl x := by rw [lt_bef]; exact bef_irrefl x
  trans x y z h1 h2 := by rw [lt_bef] at *; exact bef_trans h1 h2
  ntrans x y z h1 h2 := by rw [lt_bef] at *; exact bef_ntrans h1 h2
theorem totB (x y : Blk) (h1 : ltOf cmpB x y = false) (h2 : ltOf cmpB y x = false) : x = y := by rw [lt_bef] at *; exact bef_total h1 h2
theorem mergeB (bs : List Blk) : (bs.mergeSort fun x y => !ltOf cmpB y x) = sortB bs := by
  rw [← sortB_merge]
  congr 1
  funext x y
  rw [lt_bef]
theorem compareBlocks_lays (x y : Blk) (w : World) : Calls Try.prog 162 #[bv x, bv y] w fun e w' => e = .returned (.int .i64 (cmpB x y)) ∧ ∃ q os, w' = grow (w.drewN q) os := by
  obtain ⟨a, b, c⟩ := x
  obtain ⟨d, e, f⟩ := y
  unfold bv
  dsimp only
  go_enter Try.func162, Try.ntmps162
  go_wp2
  go_quiet ((go_at_call 114; exact RS.quiet (Compare_any _ 0 _ _ 0 _ [a, b, c] [d, e, f] _ (ints3 (by simp [go_sem]) (by simp [go_sem]) (by simp [go_sem])) (ints3 (by simp [go_sem]) (by simp [go_sem]) (by simp [go_sem])) (by simp) (by simp))))
  go_wp2
  go_ret
  exact ⟨rfl, _, _, by rw [alloc_eq_grow, alloc_eq_grow, grow_grow]; rfl⟩
end Go.Proofs.Ytacfelgilphppaa

namespace Go.Proofs.Ytacfelgilphppaa
open Go.RowKit Go.Maps
/-- The value is a slice of just these blocks; of the numbers nothing is said. -/
def SX (w : World) (s : Value) (bs : List Blk) : Prop := (∃ a c, s = .slice a 0 c ∧ bs = []) ∨ ∃ b off cap, s = .slice (some ⟨b, off, none⟩) bs.length cap ∧ b < w.heap.size ∧ Blks w b off bs
theorem SB.sx {w : World} {s : Value} {bs : List Blk} (h : SB w s bs) : SX w s bs := h.2.2
theorem SX.below {w w' : World} {s : Value} {bs : List Blk} (h : SX w s bs) {B : Nat} (hb : Below B w w') (hB : w.heap.size ≤ B) : SX w' s bs := by
  rcases h with h3 | ⟨b, off, cap, rfl, hl, hr⟩
  · exact .inl h3
  · exact .inr ⟨b, off, cap, rfl, by have := hb.size; omega, hr.below hb (by omega)⟩
theorem OwnR.sx {w : World} {base : Nat} {s : Value} {bs : List Blk} (h : OwnR w base s bs) : SX w s bs := by
  rcases h.res with ⟨rfl, a, c, rfl⟩ | ⟨g, cap, rfl, _, _, ho⟩
  · exact .inl ⟨a, c, rfl, rfl⟩
  · exact .inr ⟨g, 0, cap, rfl, ho.lt, ho.at_⟩
theorem OwnR.form {w : World} {base : Nat} {s : Value} {bs : List Blk} (h : OwnR w base s bs) : ∃ a c, s = .slice a bs.length c := by
  rcases h.res with ⟨rfl, a, c, rfl⟩ | ⟨g, cap, rfl, _⟩ <;> exact ⟨_, _, rfl⟩
theorem blks_flat {w : World} {b off : Nat} {bs : List Blk} (h : Blks w b off bs) (j : Nat) (u : Value) (hu : (bs.flatMap cells3)[j]? = some u) : w.cell? ⟨b, off + j, none⟩ = some u := by
  have hj : j < bs.length * 3 := by
    rw [← flat_length]
    exact (List.getElem?_eq_some_iff.1 hu).1
  obtain ⟨h0, h1, h2⟩ := h (j / 3) (by omega)
  obtain ⟨f0, f1, f2⟩ := flat_at bs (j / 3) (by omega)
  have hm : j % 3 = 0 ∨ j % 3 = 1 ∨ j % 3 = 2 := by omega
  rcases hm with hm | hm | hm
  · rw [show j / 3 * 3 = j by omega] at f0
    rw [show off + j / 3 * 3 = off + j by omega] at h0
    rw [h0, ← hu, f0]
  · rw [show j / 3 * 3 + 1 = j by omega] at f1
    rw [show off + j / 3 * 3 + 1 = off + j by omega] at h1
    rw [h1, ← hu, f1]
  · rw [show j / 3 * 3 + 2 = j by omega] at f2
    rw [show off + j / 3 * 3 + 2 = off + j by omega] at h2
    rw [h2, ← hu, f2]
theorem flat_one (bs : List Blk) : ∀ u ∈ bs.flatMap cells3, u.oneCell' = true := by
  intro u hu
  obtain ⟨x, _, hx⟩ := List.mem_flatMap.1 hu
  simp [cells3] at hx
  rcases hx with rfl | rfl | rfl <;> rfl
theorem run_append_many (w : World) (ty : TypeId) (base : Nat) (v : Value) (bs : List Blk) (hown : OwnR w base v bs) (x : Value) (cs : List Blk) (hx : SX w x cs) (hl : bs.length + cs.length ≤ 2200000) (hb : base ≤ w.heap.size) :
    ∃ v' w', (Builtin.append_ #[29, 29] ty #[v, x]).run Try.prog w = .ok v' w' ∧ OwnR w' base v' (bs ++ cs) ∧ w.grownBy w' v.ownBlock := by
  obtain ⟨i0, hi, hz0, hz1, hz2⟩ := info_parts infoBlock
  have key : ∀ (a : Addr) (m c : Nat) (news : List Value), x = .slice (some a) m c → m = cs.length → news = cs.flatMap cells3 → (∀ j u, news[j]? = some u → w.cell? (a.add j) = some u) →
      ∃ v' w', (Builtin.append_ #[29, 29] ty #[v, x]).run Try.prog w = .ok v' w' ∧ OwnR w' base v' (bs ++ cs) ∧ w.grownBy w' v.ownBlock := by
    intro a m c news ex em en hn
    subst ex
    subst en
    subst em
    obtain ⟨v', w', h1, h2, h3, _⟩ := run_append_own_at (P := Try.prog) w base 29 ty 93 i0 _ 3 24 Try.underlying29 hi hz0 hz1 hz2 rfl (by decide) v bs.length (bs.flatMap cells3) hown a cs.length c (cs.flatMap cells3) (flat_length cs) hn (flat_one cs) (by unfold maxLen; omega) (by omega) hb
    exact ⟨v', w', h1, by unfold OwnR; rw [List.length_append, List.flatMap_append]; exact h2, h3⟩
  rcases hx with ⟨a, c, rfl, rfl⟩ | ⟨b, off, cap, rfl, _, hbl⟩
  · cases a with
    | some a => exact key a 0 c [] rfl rfl rfl (by simp)
    | none =>
      refine ⟨v, w, ?_, by rw [List.append_nil]; exact hown, only_refl _ _⟩
      obtain ⟨a, c', rfl⟩ := hown.form
      have hroom : bs.length ≤ c' := by
        rcases hown.2 with ⟨h, h0⟩ | ⟨g, cap, cur, h, _, _, hn, _⟩
        · rw [h0]; exact Nat.zero_le _
        · simp at h; omega
      have hc : ∀ W : World, (Builtin.lenOf (.slice none 0 c)).run Try.prog W = .ok 0 W := fun _ => rfl
      have hc2 : ∀ W : World, (Builtin.firstCells 3 0 (.slice none 0 c)).run Try.prog W = .ok #[] W := fun _ => rfl
      simp [Builtin.append_, run_underlying Try.underlying29, sizeOf, typeInfo, hi, hz1, hc, hc2, hroom]
      cases a <;> rfl
  · refine key ⟨b, off, none⟩ cs.length cap (cs.flatMap cells3) rfl rfl rfl fun j u hu => ?_
    rw [addr_at]
    exact blks_flat hbl j u hu
theorem wp_append_many {w : World} {o : Oper} {a : Act} {K : Act → World → Prop} {Q : Exit → Act → World → Prop} (s x : Operand)
    (ho : o.op = .call { callee := .builtin .append, args := #[s, x], argTypes := #[29, 29] })
    (base : Nat) (v : Value) (bs : List Blk) (hs : a.eval s = v) (hown : OwnR w base v bs) (xv : Value) (cs : List Blk) (hxv : a.eval x = xv) (hx : SX w xv cs) (hl : bs.length + cs.length ≤ 2200000) (hb : base ≤ w.heap.size)
    (h : ∀ (a' : Option Addr) (c' : Nat) (w' : World), OwnR w' base (.slice a' (bs.length + cs.length) c') (bs ++ cs) → w.grownBy w' v.ownBlock → K (a.put o.dst (.slice a' (bs.length + cs.length) c')) w') : o.wp Try.prog a w K Q := by
  obtain ⟨v', w', hr, h2, h3⟩ := run_append_many w o.type base v bs hown xv cs hx hl hb
  obtain ⟨a', c', hv⟩ := h2.form
  rw [List.length_append] at hv
  subst hv
  unfold Oper.wp execOp
  simp only [ho, resolve, invoke, builtin, Sem.run_bind, Sem.run_pure, Result.andThen_ok, List.map_toArray, List.map_cons, List.map_nil, hs, hxv, hr]
  exact h a' c' w' h2 h3
theorem wpList_append_many {w : World} {ops : Array Oper} {rest : List Oper} {o : Oper} {a : Act} {Q : Exit → Act → World → Prop} (hgd : o.guard = none) (s x : Operand)
    (ho : o.op = .call { callee := .builtin .append, args := #[s, x], argTypes := #[29, 29] })
    (base : Nat) (v : Value) (bs : List Blk) (hs : a.eval s = v) (hown : OwnR w base v bs) (xv : Value) (cs : List Blk) (hxv : a.eval x = xv) (hx : SX w xv cs) (hl : bs.length + cs.length ≤ 2200000) (hb : base ≤ w.heap.size)
    (h : ∀ (a' : Option Addr) (c' : Nat) (w' : World), OwnR w' base (.slice a' (bs.length + cs.length) c') (bs ++ cs) → w.grownBy w' v.ownBlock → wpList Try.prog ops Q rest (a.put o.dst (.slice a' (bs.length + cs.length) c')) w') : wpList Try.prog ops Q (o :: rest) a w :=
  wpList_plain hgd fun _ hK => wp_append_many s x ho base v bs hs hown xv cs hxv hx hl hb fun a' c' w' h1 h2 => hK _ _ (h a' c' w' h1 h2)
theorem step_append_many {w : World} {ops : Array Oper} {o : Oper} {a : Act} {K : Act → World → Prop} {Q : Exit → Act → World → Prop} {E : Prop} (hgd : o.guard = none) (s x : Operand)
    (ho : o.op = .call { callee := .builtin .append, args := #[s, x], argTypes := #[29, 29] })
    (base : Nat) (v : Value) (bs : List Blk) (hs : a.eval s = v) (hown : OwnR w base v bs) (xv : Value) (cs : List Blk) (hxv : a.eval x = xv) (hx : SX w xv cs) (hl : bs.length + cs.length ≤ 2200000) (hb : base ≤ w.heap.size)
    (h : ∀ (a' : Option Addr) (c' : Nat) (w' : World), OwnR w' base (.slice a' (bs.length + cs.length) c') (bs ++ cs) → w.grownBy w' v.ownBlock → K (a.put o.dst (.slice a' (bs.length + cs.length) c')) w') :
    if Region.wanted o (yielded ops a.tmps) = true then Oper.wp Try.prog o a w K Q else E := by
  have hw : Region.wanted o (yielded ops a.tmps) = true := by simp [Region.wanted, hgd]
  rw [if_pos hw]
  exact wp_append_many s x ho base v bs hs hown xv cs hxv hx hl hb h
end Go.Proofs.Ytacfelgilphppaa

namespace Go.Proofs
open Go.Shelf
def Try.sortB_ren : Go.Shelf.Ren := ⟨fun | 6 => 195 | 15 => 181 | 14 => 239 | 28 => 225 | 29 => 226 | 20 => 255 | 21 => 256 | 22 => 257 | 23 => 258 | 24 => 259 | 25 => 260 | 26 => 261 | 27 => 262 | 46 => 266 | 47 => 247 | 48 => 248 | 49 => 267 | 50 => 268 | 57 => 270 | n => n, fun | 22 => 29 | 24 => 93 | 25 => 144 | 3 => 3 | 39 => 158 | 0 => 0 | 53 => 206 | 55 => 146 | 4 => 4 | 46 => 199 | 45 => 198 | 50 => 203 | 5 => 5 | 9 => 9 | 66 => 223 | 70 => 227 | 76 => 236 | 77 => 237 | n => n, fun | n => n⟩
theorem Try.sortB : Go.Proofs.SlLaysF0.n6 Try.prog Try.sortB_ren := {
  mixed := by kernel_rfl
  f6 := ⟨Try.f195.name, by decide, Try.func195.trans (congrArg some (by kernel_rfl))⟩
  f14 := ⟨Try.f239.name, by decide, Try.func239.trans (congrArg some (by kernel_rfl))⟩
  f15 := Try.func181.trans (congrArg some (by kernel_rfl))
  f20 := ⟨Try.f255.name, by decide, Try.func255.trans (congrArg some (by kernel_rfl))⟩
  f21 := ⟨Try.f256.name, by decide, Try.func256.trans (congrArg some (by kernel_rfl))⟩
  f22 := ⟨Try.f257.name, by decide, Try.func257.trans (congrArg some (by kernel_rfl))⟩
  f23 := ⟨Try.f258.name, by decide, Try.func258.trans (congrArg some (by kernel_rfl))⟩
  f24 := ⟨Try.f259.name, by decide, Try.func259.trans (congrArg some (by kernel_rfl))⟩
  f25 := ⟨Try.f260.name, by decide, Try.func260.trans (congrArg some (by kernel_rfl))⟩
  f26 := ⟨Try.f261.name, by decide, Try.func261.trans (congrArg some (by kernel_rfl))⟩
  f27 := ⟨Try.f262.name, by decide, Try.func262.trans (congrArg some (by kernel_rfl))⟩
  f28 := Try.func225.trans (congrArg some (by kernel_rfl))
  f29 := Try.func226.trans (congrArg some (by kernel_rfl))
  f46 := ⟨Try.f266.name, by decide, Try.func266.trans (congrArg some (by kernel_rfl))⟩
  f47 := Try.func247.trans (congrArg some (by kernel_rfl))
  f48 := Try.func248.trans (congrArg some (by kernel_rfl))
  f49 := ⟨Try.f267.name, by decide, Try.func267.trans (congrArg some (by kernel_rfl))⟩
  f50 := ⟨Try.f268.name, by decide, Try.func268.trans (congrArg some (by kernel_rfl))⟩
  f57 := ⟨Try.f270.name, by decide, Try.func270.trans (congrArg some (by kernel_rfl))⟩
  t0 := Try.underlying0
  a0 := Try.isAgg0
  z0 := Try.sizeOf0
  v0 := Try.zeroValue0
  t3 := Try.underlying3
  a3 := Try.isAgg3
  z3 := Try.sizeOf3
  v3 := Try.zeroValue3
  t4 := Try.underlying4
  a4 := Try.isAgg4
  z4 := Try.sizeOf4
  v4 := Try.zeroValue4
  t5 := Try.underlying5
  a5 := Try.isAgg5
  z5 := Try.sizeOf5
  v5 := Try.zeroValue5
  t9 := Try.underlying9
  a9 := Try.isAgg9
  z9 := Try.sizeOf9
  v9 := Try.zeroValue9
  t22 := Try.underlying29
  a22 := Try.isAgg29
  z22 := Try.sizeOf29
  v22 := Try.zeroValue29
  t25 := Try.underlying144
  a25 := Try.isAgg144
  z25 := Try.sizeOf144
  v25 := Try.zeroValue144
  t39 := Try.underlying158
  a39 := Try.isAgg158
  z39 := Try.sizeOf158
  v39 := Try.zeroValue158
  t45 := Try.underlying198
  a45 := Try.isAgg198
  z45 := Try.sizeOf198
  v45 := Try.zeroValue198
  t46 := Try.underlying199
  a46 := Try.isAgg199
  z46 := Try.sizeOf199
  v46 := Try.zeroValue199
  t50 := Try.underlying203
  a50 := Try.isAgg203
  z50 := Try.sizeOf203
  v50 := Try.zeroValue203
  t53 := Try.underlying206
  a53 := Try.isAgg206
  z53 := Try.sizeOf206
  v53 := Try.zeroValue206
  t55 := Try.underlying146
  a55 := Try.isAgg146
  z55 := Try.sizeOf146
  v55 := Try.zeroValue146
  t66 := Try.underlying223
  a66 := Try.isAgg223
  z66 := Try.sizeOf223
  v66 := Try.zeroValue223
  t70 := Try.underlying227
  a70 := Try.isAgg227
  z70 := Try.sizeOf227
  v70 := Try.zeroValue227
  t76 := Try.underlying236
  a76 := Try.isAgg236
  z76 := Try.sizeOf236
  v76 := Try.zeroValue236
  t77 := Try.underlying237
  a77 := Try.isAgg237
  z77 := Try.sizeOf237
  v77 := Try.zeroValue237 }
end Go.Proofs

namespace Go.Proofs.Ytacfelgilphppaa
open Go.RowKit Go.Maps Go.Sort Go.Shelf
theorem aggB (w : World) : (isAgg 93).run Try.prog w = .ok true w := by kernel_rfl
theorem szB (w : World) : (Go.sizeOf 93).run Try.prog w = .ok 3 w := by kernel_rfl
theorem one3 : ∀ x : Blk, ∀ v ∈ cells3 x, v.oneCell' = true := fun x v hv => by
  simp [cells3] at hv
  rcases hv with rfl | rfl | rfl <;> rfl
theorem cmpLays (blk off size : Nat) (w : World) : CmpLays Try.prog 162 #[] cells3 3 cmpB blk off size w := fun _ _ _ _ x y => compareBlocks_lays x y _
theorem sortFunc_any (base : Nat) (s : Value) (bs : List Blk) (w : World) (h : OwnR w base s bs) (hl : bs.length ≤ 1100000) :
    Calls Try.prog 195 #[s, .func (.func 162) #[] #[]] w fun e w' => e = .returned (.tuple #[]) ∧ OwnR w' base s (sortB bs) ∧ w.grownBy w' s.ownBlock := by
  obtain ⟨a, c, rfl⟩ : ∃ a c, s = .slice a bs.length c := by
    rcases h.res with ⟨rfl, a, c, rfl⟩ | ⟨g, cap, rfl, _⟩ <;> exact ⟨_, _, rfl⟩
  rcases h.2 with ⟨hv, h0⟩ | ⟨g, cap, cur, hv, hb, hcur, hrest⟩
  · have e0 : bs = [] := List.length_eq_zero_iff.1 h0
    subst e0
    cases hv
    have hS := AnyF.slices_SortFunc_none (P := Try.prog) (ρ := Try.sortB_ren) { Try.sortB with } none 0 (.func (.func 162) #[] #[]) w
    refine Calls.mono hS ?_
    rintro e w' ⟨rfl, rfl⟩
    exact ⟨rfl, h, only_refl _ _⟩
  · cases hv
    have hat := h.at_.2.2
    have eg : ∀ args w, (callFunc 162 args).run Try.prog w = .ok (.enter 162 args) w := enters_of Try.func162 (by kernel_rfl) rfl
    have hS := AnyQ.slices_SortFunc_total Try.sortB 3 aggB szB cells3 (fun _ => rfl) one3 cmpB swoB 162 #[] g 0 c bs.toArray w eg (cmpLays _ _ _ _) hat.holds hat.lt (by simp; omega) totB
    rw [List.size_toArray] at hS
    refine Calls.mono hS ?_
    rintro e w' ⟨rfl, n, os, rfl⟩
    have hm := mergeB bs
    have ho := h.sorted (cs := sortB bs) (sortB_length bs) n os
    rw [← hm] at ho
    rw [← hm]
    exact ⟨rfl, ho⟩
theorem OwnR.formS {w : World} {base : Nat} {s : Value} {bs : List Blk} (h : OwnR w base s bs) : ∃ a c, s = .slice a bs.length c := by
  rcases h.res with ⟨rfl, a, c, rfl⟩ | ⟨g, cap, rfl, _⟩ <;> exact ⟨_, _, rfl⟩
theorem gb_setnew {a w : World} {row : Option Nat} (h : a.grownBy w row) {p : Addr} (hp : a.heap.size ≤ p.block) (u : Value) : a.grownBy (w.setCell p u) row :=
  ⟨h.os, h.tape, h.output, by simpa [World.setCell] using h.size, fun i hi hne => (Below.heap_setCell w p u i (by omega)).trans (h.block i hi hne)⟩
set_option maxRecDepth 100000 in
theorem systemFrom_any (v : Int) (base : Nat) (s : Value) (bs : List Blk) (w : World) (h : OwnR w base s bs) (hl : bs.length ≤ 1100000) (hb : base ≤ w.heap.size) :
    Calls Try.prog 135 #[.int .i64 v, s] w fun e w' => e = .returned (.agg #[.int .i64 v, s]) ∧ OwnR w' base s (sortB bs) ∧ w.grownBy w' s.ownBlock := by
  have hS := sortFunc_any base s bs (w.alloc (.cells #[.int .i64 0, .slice none 0 0] 31)) (h.below ((Below.refl _ _).alloc (Nat.le_refl _) _) (Nat.le_refl _)) hl
  have hrow := h.row
  have hlt : ∀ r, s.ownBlock = some r → r < w.heap.size := fun r e => by
    rcases h.2 with ⟨hv, h0⟩ | ⟨g, cap, cur, hv, hb, hcur, hrest⟩
    · rw [hv] at e; simp [Value.ownBlock] at e
    · rw [hv] at e
      obtain rfl : g = r := by simpa [Value.ownBlock] using e
      exact (Array.getElem?_eq_some_iff.1 hcur).1
  have HLT := Lib.hid hlt
  have HS := Lib.hid hS
  obtain ⟨a, c, hs⟩ := h.formS
  clear hS h hrow hlt
  subst hs
  go_enter Try.func135, Try.ntmps135
  go_wp2_with fail
  refine HS.out.mono ?_
  rintro e w1 ⟨rfl, ho, hg⟩
  have hz := hg.size
  simp at hz
  have d0 : w1.cell? ⟨w.heap.size, 0, none⟩ = some (.int .i64 0) := hg.cell (by simp [go_sem]) (fun e => by have := HLT.out _ e.symm; simp at this)
  have d1 : w1.cell? ⟨w.heap.size, 1, none⟩ = some (.slice none 0 0) := hg.cell (by simp [go_sem]) (fun e => by have := HLT.out _ e.symm; simp at this)
  have hblk := hg.block w.heap.size (by simp) (fun e => by have := HLT.out _ e.symm; omega)
  have f0 : w1.frozen? ⟨w.heap.size, 0, none⟩ = false := (World.frozen?_of_block (a := ⟨w.heap.size, 0, none⟩) hblk).trans (by simp [go_sem])
  have f1 : w1.frozen? ⟨w.heap.size, 1, none⟩ = false := (World.frozen?_of_block (a := ⟨w.heap.size, 1, none⟩) hblk).trans (by simp [go_sem])
  have HO := Lib.hid (And.intro ho hg)
  clear ho hg hblk
  go_wp2
  refine bodyPost_ret (v := .agg #[.int .i64 v, .slice a bs.length c]) (by simp [results, Try.results135, go_sem, *]) rfl ⟨rfl, ?_, ?_⟩
  · exact World.ownsRow.kept HO.out.1 (gb_set2 w1 w.heap.size (.int .i64 v) (.slice a bs.length c)) (.inr fun e => by have := HLT.out w.heap.size (by first | exact e | exact e.symm); omega)
  · exact gb_setnew (p := ⟨w.heap.size, 1, none⟩) (gb_setnew (p := ⟨w.heap.size, 0, none⟩) (gb_trans (World.grownBy_alloc w _ none) HO.out.2) (Nat.le_refl _) _) (Nat.le_refl _) _
end Go.Proofs.Ytacfelgilphppaa

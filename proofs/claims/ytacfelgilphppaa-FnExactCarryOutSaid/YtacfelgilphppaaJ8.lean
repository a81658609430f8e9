
/- impl.haveSamePairs and impl.IsTrade. What a law over one system whose result is a system knows of the memory between two of its steps. impl.FitsSystem. The model's l04Fits, FitsSystem. What DoubleSystem answers: plain. What TakeBlock answers: plain. impl.TakeBlock answers as the plain function takeF. The contract of the sort, laid at the blocks. The program's systemFrom. -/
import Derived.Test.YtacfelgilphppaaJ7
import Derived.Deep.RegionWith
import Derived.Deep.DeepCutAuto
import Derived.Shelf.SlSortCmp.NoneTotal
import Derived.Ground.SlsfProg
import Derived.Test.YtacfelgilphppaaProg
namespace Go.Proofs.Ytacfelgilphppaa
open Go.RowKit Go.Maps
set_option maxRecDepth 100000 in
theorem haveSame_any (v u : Int) (s : Value) (bs : List Blk) (t : Value) (cs : List Blk) (w : World) (h : SB w s bs) (k : SB w t cs) (h1 : isSysImpl v bs = true) (h2 : isSysImpl u cs = true) :
    Calls Try.prog 128 #[s, t] w (RV (.bool (samePr bs cs)) w) := by
  have hs := h.slice
  have ht := k.slice
  obtain ⟨_, _, l1⟩ := sys_size h1
  obtain ⟨_, _, l2⟩ := sys_size h2
  have n1 := prs_nodup h1
  have n2 := prs_nodup h2
  have hp1 := pairsIn_any s bs w h (by omega)
  have HP1 := Lib.hid hp1
  have HP2 := Lib.hid fun W (hb : Below w.heap.size w W) => pairsIn_any t cs W (k.below hb (Nat.le_refl _)) (by omega)
  rw [samePr_of h1 h2]
  have HN1 := Lib.hid n1
  have HN2 := Lib.hid n2
  clear h k h1 h2 l1 l2 n1 n2 hp1
  obtain ⟨a, c, rfl⟩ := hs
  obtain ⟨a', c', rfl⟩ := ht
  go_enter Try.func128, Try.ntmps128
  go_wp2_with fail
  refine HP1.out.mono ?_
  rintro e w1 ⟨rfl, hS1, hb1⟩
  have HS1 := Lib.hid hS1
  clear hS1
  go_wp2_with fail
  refine (HP2.out _ hb1).mono ?_
  rintro e w2 ⟨rfl, hS2, hb2⟩
  have hS1 := HS1.out.below hb2 HS1.out.lt
  have HS1' := Lib.hid hS1
  have HS2 := Lib.hid hS2
  clear hS1 hS2
  go_wp2_with fail
  refine (mapsEqual_any _ _ _ _ (prs bs) (prs cs) _ HS1'.out HS2.out HN1.out HN2.out).mono ?_
  rintro e w3 ⟨rfl, hg3⟩
  go_wp2
  go_ret
  exact RV_of rfl ((hb1.trans (hb2.mono hb1.size)).grown hg3 (Nat.le_trans hb1.size hb2.size) (by simp))
/-- Two boxes for the two systems. -/
def Box2 (w : World) (v : Int) (so si : Value) (x y : Value) (W : World) : Prop :=
  ∃ B C, x = .pointer (some ⟨B, 0, none⟩) ∧ y = .pointer (some ⟨C, 0, none⟩) ∧ Below w.heap.size w W ∧ w.heap.size < B ∧ w.heap.size < C ∧ B < W.heap.size ∧ C < W.heap.size ∧
    W.cell? ⟨w.heap.size, 0, none⟩ = some (.int .i64 v) ∧ W.cell? ⟨w.heap.size, 1, none⟩ = some so ∧ W.cell? ⟨w.heap.size, 2, none⟩ = some si ∧
    W.cell? ⟨B, 0, none⟩ = some (.int .i64 v) ∧ W.cell? ⟨B, 1, none⟩ = some so ∧ W.cell? ⟨C, 0, none⟩ = some (.int .i64 v) ∧ W.cell? ⟨C, 1, none⟩ = some si
theorem Box2.mk1 {w W0 : World} {v : Int} {so si : Value} {T : TypeId} (hB : Below w.heap.size w W0) (hz : w.heap.size < W0.heap.size) (c0 : W0.cell? ⟨w.heap.size, 0, none⟩ = some (.int .i64 v)) (c1 : W0.cell? ⟨w.heap.size, 1, none⟩ = some so) (c2 : W0.cell? ⟨w.heap.size, 2, none⟩ = some si) :
    Box2 w v so si (.pointer (some ⟨W0.heap.size, 0, none⟩)) (.pointer (some ⟨W0.heap.size + 1, 0, none⟩)) ((W0.alloc (.cells #[.int .i64 v, so] T)).alloc (.cells #[.int .i64 v, si] T)).drew := by
  refine ⟨_, _, rfl, rfl, ((hB.alloc (by omega) _).alloc (by simp; omega) _).drew, by omega, by omega, ?_, ?_, cell_past (cell_past c0 hz) (by simp; omega), cell_past (cell_past c1 hz) (by simp; omega), cell_past (cell_past c2 hz) (by simp; omega), cell_past (new_at 0 rfl) (by simp), cell_past (new_at 1 rfl) (by simp), ?_, ?_⟩
  · show W0.heap.size < ((W0.alloc (.cells #[.int .i64 v, so] T)).alloc (.cells #[.int .i64 v, si] T)).heap.size
    simp; omega
  · show W0.heap.size + 1 < ((W0.alloc (.cells #[.int .i64 v, so] T)).alloc (.cells #[.int .i64 v, si] T)).heap.size
    simp
  · have := new_at (w := W0.alloc (.cells #[.int .i64 v, so] T)) (cs := #[.int .i64 v, si]) (T := T) 0 rfl
    rw [World.size_alloc] at this
    exact this
  · have := new_at (w := W0.alloc (.cells #[.int .i64 v, so] T)) (cs := #[.int .i64 v, si]) (T := T) 1 rfl
    rw [World.size_alloc] at this
    exact this
theorem Box2.mk2 {w W0 : World} {v : Int} {so si : Value} {T : TypeId} (hB : Below w.heap.size w W0) (hz : w.heap.size < W0.heap.size) (c0 : W0.cell? ⟨w.heap.size, 0, none⟩ = some (.int .i64 v)) (c1 : W0.cell? ⟨w.heap.size, 1, none⟩ = some so) (c2 : W0.cell? ⟨w.heap.size, 2, none⟩ = some si) :
    Box2 w v so si (.pointer (some ⟨W0.heap.size + 1, 0, none⟩)) (.pointer (some ⟨W0.heap.size, 0, none⟩)) ((W0.alloc (.cells #[.int .i64 v, si] T)).alloc (.cells #[.int .i64 v, so] T)).drew := by
  refine ⟨_, _, rfl, rfl, ((hB.alloc (by omega) _).alloc (by simp; omega) _).drew, by omega, by omega, ?_, ?_, cell_past (cell_past c0 hz) (by simp; omega), cell_past (cell_past c1 hz) (by simp; omega), cell_past (cell_past c2 hz) (by simp; omega), ?_, ?_, cell_past (new_at 0 rfl) (by simp), cell_past (new_at 1 rfl) (by simp)⟩
  · show W0.heap.size + 1 < ((W0.alloc (.cells #[.int .i64 v, si] T)).alloc (.cells #[.int .i64 v, so] T)).heap.size
    simp
  · show W0.heap.size < ((W0.alloc (.cells #[.int .i64 v, si] T)).alloc (.cells #[.int .i64 v, so] T)).heap.size
    simp; omega
  · have := new_at (w := W0.alloc (.cells #[.int .i64 v, si] T)) (cs := #[.int .i64 v, so]) (T := T) 0 rfl
    rw [World.size_alloc] at this
    exact this
  · have := new_at (w := W0.alloc (.cells #[.int .i64 v, si] T)) (cs := #[.int .i64 v, so]) (T := T) 1 rfl
    rw [World.size_alloc] at this
    exact this
set_option maxRecDepth 100000 in
set_option maxHeartbeats 1000000 in
theorem IsTrade_case (v : Int) (so : Value) (bo : List Blk) (si : Value) (bi : List Blk) (w : World) (h : TB w so bo si bi) (L : List Blk) (κ : Int) (res : Bool) (hcf : commonF v bo v bi = (L, κ))
    (hcase : (κ = 1 ∧ L.length = 0 ∧ res = false) ∨ (κ = 0 ∧ 0 < L.length ∧ res = false) ∨ (κ = 0 ∧ L.length = 0 ∧ ∀ W, Below w.heap.size w W → Calls Try.prog 128 #[so, si] W (RV (.bool res) W))) :
    Calls Try.prog 65 #[.agg #[.int .i64 v, so, si]] w (RV (.bool res) w) := by
  have hs := h.1.slice
  have ht := h.2.slice
  have HC := Lib.hid fun W (hb : Below w.heap.size w W) => CommonBlocks_any v so bo v si bi W (h.1.below hb (Nat.le_refl _)) (h.2.below hb (Nat.le_refl _))
  rw [hcf] at HC
  have HCS := Lib.hid hcase
  clear h hcf hcase
  obtain ⟨a, c, rfl⟩ := hs
  obtain ⟨a', c', rfl⟩ := ht
  go_enter Try.func65, Try.ntmps65
  go_upto_region 1 with fail
  have c0 : (w.alloc (.cells #[.int .i64 v, .slice a bo.length c, .slice a' bi.length c'] 63)).cell? ⟨w.heap.size, 0, none⟩ = some (.int .i64 v) := new_at 0 rfl
  have c1 : (w.alloc (.cells #[.int .i64 v, .slice a bo.length c, .slice a' bi.length c'] 63)).cell? ⟨w.heap.size, 1, none⟩ = some (.slice a bo.length c) := new_at 1 rfl
  have c2 : (w.alloc (.cells #[.int .i64 v, .slice a bo.length c, .slice a' bi.length c'] 63)).cell? ⟨w.heap.size, 2, none⟩ = some (.slice a' bi.length c') := new_at 2 rfl
  have hB0 : Below w.heap.size w (w.alloc (.cells #[.int .i64 v, .slice a bo.length c, .slice a' bi.length c'] 63)) := (Below.refl _ _).alloc (Nat.le_refl _) _
  have hz0 : w.heap.size < (w.alloc (.cells #[.int .i64 v, .slice a bo.length c, .slice a' bi.length c'] 63)).heap.size := by simp
  obtain ⟨W0, hW0⟩ : ∃ W0, w.alloc (.cells #[.int .i64 v, .slice a bo.length c, .slice a' bi.length c'] 63) = W0 := ⟨_, rfl⟩
  rw [hW0] at c0 c1 c2 hB0 hz0 ⊢
  clear hW0
  go_cut [3, 4] (fun x y wx => Box2 w v (.slice a bo.length c) (.slice a' bi.length c') x y wx)
  case first =>
    go_region
    all_goals
      go_wp2_with fail
      go_meet
      first | exact Box2.mk1 hB0 hz0 c0 c1 c2 | exact Box2.mk2 hB0 hz0 c0 c1 c2
  case rest =>
    obtain ⟨B, C, rfl, rfl, hbc, hB1, hC1, hB2, hC2, d0, d1, d2, e0, e1, f0, f1⟩ := hcut
    clear c0 c1 c2 hB0 hz0
    obtain ⟨W1, hW1⟩ : ∃ W, W = wc := ⟨_, rfl⟩
    rw [← hW1] at hbc hB2 hC2 d0 d1 d2 e0 e1 f0 f1 ⊢
    clear hW1
    go_wp2_with fail
    refine (HC.out _ hbc).mono ?_
    rintro e w2 ⟨s2, rfl, hr2, hb2⟩
    obtain ⟨a2, n2, rfl⟩ := hr2.slice
    clear hr2
    have hbw := hbc.trans (hb2.mono hbc.size)
    have g1 := (hb2.cell (p := ⟨w.heap.size, 1, none⟩) (show w.heap.size < W1.heap.size by omega)).trans d1
    have g2 := (hb2.cell (p := ⟨w.heap.size, 2, none⟩) (show w.heap.size < W1.heap.size by omega)).trans d2
    clear d0 d1 d2 e0 e1 f0 f1 hb2
    rcases HCS.out with ⟨rfl, hl, rfl⟩ | ⟨rfl, hl, rfl⟩ | ⟨rfl, hl, hcall⟩
    · clear HCS HC
      go_wp2
      go_ret
      exact RV_of rfl hbw
    · have hne : ((L.length : Int) == 0) = false := by simp; intro hc; simp [hc] at hl
      clear HCS HC
      go_wp2
      go_ret
      exact RV_of rfl hbw
    · have HP := Lib.hid hcall
      rw [hl]
      clear HCS HC hcall
      go_wp2_with fail
      refine (HP.out _ hbw).mono ?_
      rintro e w3 ⟨rfl, hb3⟩
      go_wp2
      go_ret
      exact RV_of rfl (hbw.trans (hb3.mono hbw.size))
theorem commonL_dsj (bs cs : List Blk) : (commonL bs cs).length = 0 ↔ dsj bs cs = true := by
  rw [List.length_eq_zero_iff, dsj_iff, commonL, List.filter_eq_nil_iff]
  simp
theorem IsTrade_any (v : Int) (so : Value) (bo : List Blk) (si : Value) (bi : List Blk) (w : World) (h : TB w so bo si bi) : Calls Try.prog 65 #[.agg #[.int .i64 v, so, si]] w (RV (.bool (trdB v bo bi)) w) := by
  unfold trdB
  cases hb : isSysImpl v bo && isSysImpl v bi with
  | false =>
    rw [Bool.false_and]
    exact IsTrade_case v so bo si bi w h [] 1 false (by unfold commonF; rw [hb]; rfl) (.inl ⟨rfl, rfl, rfl⟩)
  | true =>
    rw [Bool.true_and]
    have hcf : commonF v bo v bi = (commonL bo bi, 0) := by unfold commonF; rw [hb]; simp
    simp only [Bool.and_eq_true] at hb
    by_cases hd : (commonL bo bi).length = 0
    · refine IsTrade_case v so bo si bi w h _ 0 _ hcf (.inr (.inr ⟨rfl, hd, fun W hW => ?_⟩))
      rw [(commonL_dsj bo bi).1 hd, Bool.and_true]
      exact haveSame_any v v so bo si bi W (h.1.below hW (Nat.le_refl _)) (h.2.below hW (Nat.le_refl _)) hb.1 hb.2
    · have hf : dsj bo bi = false := by
        cases hc : dsj bo bi
        · rfl
        · exact absurd ((commonL_dsj bo bi).2 hc) hd
      refine IsTrade_case v so bo si bi w h _ 0 _ hcf (.inr (.inl ⟨rfl, by omega, ?_⟩))
      rw [hf, Bool.and_false]
end Go.Proofs.Ytacfelgilphppaa

namespace Go.Proofs.Ytacfelgilphppaa
open Go.RowKit Go.Maps
structure CS (w : World) (v p : Int) (s sW s8 sG : Value) (XW X XG i0 i1 j1 j2 k1 k2 : Nat) (LW L8 LG : List Blk) (W : World) : Prop where
  st : St1 w v s W
  o0 : w.heap.size < i0
  o1 : i0 ≤ i1
  o2 : i1 ≤ XW
  o3 : XW < j1
  o4 : j1 ≤ j2
  o5 : j2 ≤ X
  o6 : X < k1
  o7 : k1 ≤ k2
  o8 : k2 ≤ XG
  rW : ResR W i0 i1 sW LW
  vW : VarB W XW p sW
  r8 : ResR W j1 j2 s8 L8
  vX : VarB W X v s8
  rG : ResR W k1 k2 sG LG
  vG : VarB W XG p sG
section
variable {w : World} {v p : Int} {s sW s8 sG : Value} {XW X XG i0 i1 j1 j2 k1 k2 : Nat} {LW L8 LG : List Blk} {W W' : World}
theorem CS.step (h : CS w v p s sW s8 sG XW X XG i0 i1 j1 j2 k1 k2 LW L8 LG W) (hg : W.grownBy W' none) : CS w v p s sW s8 sG XW X XG i0 i1 j1 j2 k1 k2 LW L8 LG W' :=
  ⟨h.st.step hg (by simp), h.o0, h.o1, h.o2, h.o3, h.o4, h.o5, h.o6, h.o7, h.o8, h.rW.kept hg (by simp), h.vW.step hg (by simp), h.r8.kept hg (by simp), h.vX.step hg (by simp), h.rG.kept hg (by simp), h.vG.step hg (by simp)⟩
theorem CS.mark8 (h : CS w v p s sW s8 sG XW X XG i0 i1 j1 j2 k1 k2 LW L8 LG W) {row : Option Nat} (hg : W.grownBy W' row) (hr : ∀ r, row = some r → j1 ≤ r ∧ r < j2) {L : List Blk} (hn : ResR W' j1 j2 s8 L) :
    CS w v p s sW s8 sG XW X XG i0 i1 j1 j2 k1 k2 LW L LG W' := by
  obtain ⟨st, o0, o1, o2, o3, o4, o5, o6, o7, o8, rW, vW, r8, vX, rG, vG⟩ := h
  exact ⟨st.step hg (fun r e => by have := hr r e; omega), o0, o1, o2, o3, o4, o5, o6, o7, o8, rW.kept hg (fun r e => by have := hr r e; omega), vW.step hg (fun e => by have := hr _ e; omega), hn, vX.step hg (fun e => by have := hr _ e; omega), rG.kept hg (fun r e => by have := hr r e; omega), vG.step hg (fun e => by have := hr _ e; omega)⟩
theorem CS.markG (h : CS w v p s sW s8 sG XW X XG i0 i1 j1 j2 k1 k2 LW L8 LG W) {row : Option Nat} (hg : W.grownBy W' row) (hr : ∀ r, row = some r → k1 ≤ r ∧ r < k2) {L : List Blk} (hn : ResR W' k1 k2 sG L) :
    CS w v p s sW s8 sG XW X XG i0 i1 j1 j2 k1 k2 LW L8 L W' := by
  obtain ⟨st, o0, o1, o2, o3, o4, o5, o6, o7, o8, rW, vW, r8, vX, rG, vG⟩ := h
  exact ⟨st.step hg (fun r e => by have := hr r e; omega), o0, o1, o2, o3, o4, o5, o6, o7, o8, rW.kept hg (fun r e => by have := hr r e; omega), vW.step hg (fun e => by have := hr _ e; omega), r8.kept hg (fun r e => by have := hr r e; omega), vX.step hg (fun e => by have := hr _ e; omega), hn, vG.step hg (fun e => by have := hr _ e; omega)⟩
end
end Go.Proofs.Ytacfelgilphppaa

namespace Go.Proofs.Ytacfelgilphppaa
open Go.RowKit Go.Maps
/-- The trade fits the system. -/
def fitB (v : Int) (bs : List Blk) (u : Int) (bo : List Blk) : Bool := decide (v = u) && decide ((lessL bo bs).length = 0)
def fitF (v : Int) (bs : List Blk) (u : Int) (bo bi : List Blk) : Bool × Int := if isSysImpl v bs && trdB u bo bi then (fitB v bs u bo, 0) else (false, 1)
/-- The boxes of a system and of a trade. -/
structure BoxST (w' : World) (b : Nat) (v : Int) (s : Value) (u : Int) (so si : Value) : Prop where
  lt : b + 1 < w'.heap.size
  x0 : w'.cell? ⟨b, 0, none⟩ = some (.int .i64 v)
  x1 : w'.cell? ⟨b, 1, none⟩ = some s
  y0 : w'.cell? ⟨b + 1, 0, none⟩ = some (.int .i64 u)
  y1 : w'.cell? ⟨b + 1, 1, none⟩ = some so
  y2 : w'.cell? ⟨b + 1, 2, none⟩ = some si
def wST (w : World) (v : Int) (s : Value) (u : Int) (so si : Value) : World := (w.alloc (.cells #[.int .i64 v, s] 31)).alloc (.cells #[.int .i64 u, so, si] 63)
theorem BoxST.new (w : World) (v : Int) (s : Value) (u : Int) (so si : Value) : BoxST (wST w v s u so si) w.heap.size v s u so si := by
  unfold wST
  exact ⟨by simp, by simp [go_sem], by simp [go_sem], by simp [go_sem], by simp [go_sem], by simp [go_sem]⟩
theorem wST_below (w : World) (v : Int) (s : Value) (u : Int) (so si : Value) : Below w.heap.size w (wST w v s u so si) := ((Below.refl _ _).alloc (Nat.le_refl _) _).alloc (by simp) _
theorem BoxST.below {w w' : World} {b : Nat} {v : Int} {s : Value} {u : Int} {so si : Value} (h : BoxST w b v s u so si) (hb : Below w.heap.size w w') : BoxST w' b v s u so si := by
  have hl := h.lt
  exact ⟨Nat.lt_of_lt_of_le hl hb.size, (hb.cell (p := ⟨b, 0, none⟩) (by show b < _; omega)).trans h.x0, (hb.cell (p := ⟨b, 1, none⟩) (by show b < _; omega)).trans h.x1,
    (hb.cell (p := ⟨b + 1, 0, none⟩) hl).trans h.y0, (hb.cell (p := ⟨b + 1, 1, none⟩) hl).trans h.y1, (hb.cell (p := ⟨b + 1, 2, none⟩) hl).trans h.y2⟩
set_option maxRecDepth 100000 in
set_option maxHeartbeats 2000000 in
theorem FitsSystem_any (v : Int) (s : Value) (bs : List Blk) (u : Int) (so : Value) (bo : List Blk) (si : Value) (bi : List Blk) (w : World) (h : SB w s bs) (k : TB w so bo si bi) :
    Calls Try.prog 74 #[.agg #[.int .i64 v, s], .agg #[.int .i64 u, so, si]] w (RV (boolCode (fitF v bs u bo bi).1 (fitF v bs u bo bi).2) w) := by
  have hs := h.slice
  have h1 := k.1.slice
  have h2 := k.2.slice
  have HI := Lib.hid fun W (hb : Below w.heap.size w W) => IsSystem_any v s bs W (h.below hb (Nat.le_refl _))
  have HT := Lib.hid fun W (hb : Below w.heap.size w W) => IsTrade_any u so bo si bi W (k.below hb (Nat.le_refl _))
  have HSB := Lib.hid h
  have KSB := Lib.hid k.1
  clear h k
  obtain ⟨a, c, rfl⟩ := hs
  obtain ⟨a1, c1, rfl⟩ := h1
  obtain ⟨a2, c2, rfl⟩ := h2
  have HB := Lib.hid (BoxST.new w v (.slice a bs.length c) u (.slice a1 bo.length c1) (.slice a2 bi.length c2))
  have HBW := Lib.hid (wST_below w v (.slice a bs.length c) u (.slice a1 bo.length c1) (.slice a2 bi.length c2))
  unfold fitF boolCode
  cases hi : isSysImpl v bs with
  | false =>
    rw [hi] at HI
    rw [Bool.false_and, if_neg (by simp)]
    clear hi HT HSB KSB
    go_enter Try.func74, Try.ntmps74
    go_wp2_with fail
    refine (HI.out (wST w v (.slice a bs.length c) u (.slice a1 bo.length c1) (.slice a2 bi.length c2)) HBW.out).mono ?_
    rintro e w1 ⟨rfl, hb1⟩
    have hB1 := HBW.out.trans (hb1.mono HBW.out.size)
    clear hb1
    go_wp2
    go_ret2
    exact RV_of rfl hB1
  | true =>
    rw [hi] at HI
    rw [Bool.true_and]
    clear hi
    cases ht : trdB u bo bi with
    | false =>
      rw [ht] at HT
      rw [if_neg (by simp)]
      clear ht HSB KSB
      go_enter Try.func74, Try.ntmps74
      go_wp2_with fail
      refine (HI.out (wST w v (.slice a bs.length c) u (.slice a1 bo.length c1) (.slice a2 bi.length c2)) HBW.out).mono ?_
      rintro e w1 ⟨rfl, hb1⟩
      obtain ⟨_, x0, x1, y0, y1, y2⟩ := HB.out.below hb1
      have hB1 := HBW.out.trans (hb1.mono HBW.out.size)
      clear hb1
      go_wp2_with fail
      refine (HT.out _ hB1).mono ?_
      rintro e w2 ⟨rfl, hb2⟩
      have hB2 := hB1.trans (hb2.mono hB1.size)
      clear hb2
      go_wp2
      go_ret2
      exact RV_of rfl hB2
    | true =>
      rw [ht] at HT
      rw [if_pos rfl]
      clear ht
      go_enter Try.func74, Try.ntmps74
      go_wp2_with fail
      refine (HI.out (wST w v (.slice a bs.length c) u (.slice a1 bo.length c1) (.slice a2 bi.length c2)) HBW.out).mono ?_
      rintro e w1 ⟨rfl, hb1⟩
      have hbx1 := HB.out.below hb1
      obtain ⟨_, x0, x1, y0, y1, y2⟩ := id hbx1
      have HBX1 := Lib.hid hbx1
      have HB1 := Lib.hid (HBW.out.trans (hb1.mono HBW.out.size))
      clear hb1 hbx1
      go_wp2_with fail
      refine (HT.out _ HB1.out).mono ?_
      rintro e w2 ⟨rfl, hb2⟩
      have hbx2 := HBX1.out.below hb2
      clear x0 x1 y0 y1 y2
      obtain ⟨hlt2, x0, x1, y0, y1, y2⟩ := id hbx2
      have HBX2 := Lib.hid hbx2
      have HB2 := Lib.hid (HB1.out.trans (hb2.mono HB1.out.size))
      clear hb2 hbx2
      go_upto_region 3 with fail
      go_cut [6] (fun o wx => BoxST wx w.heap.size v (.slice a bs.length c) u (.slice a1 bo.length c1) (.slice a2 bi.length c2) ∧ Below w.heap.size w wx ∧ ∃ p q, o = .slice p (lessL bo bs).length q)
      case first =>
        go_region_with (first | (go_at_call 98; refine (setOf_any _ bs _ ?_).mono ?_; (exact HSB.out.below HB2.out.drew (Nat.le_refl _)); rintro e w3 ⟨rfl, hS3, hb3⟩; have hbx3 := HBX2.out.below (((Below.refl _ _).drew).trans hb3); have z1 := hbx3.y1; have HBX3 := Lib.hid hbx3; clear hbx3; have HB3 := Lib.hid (HB2.out.drew.trans (hb3.mono HB2.out.size))) | (go_at_call 133; refine (blocksWithout_any _ bo _ _ bs _ ?_ hS3).mono ?_; (exact KSB.out.below HB3.out (Nat.le_refl _)); rintro e w4 ⟨u4, rfl, hO4, hb4⟩))
        all_goals
          go_wp2_with fail
          go_meet
          exact ⟨HBX3.out.below hb4, HB3.out.trans (hb4.mono HB3.out.size), hO4.res.slice⟩
      case rest =>
      obtain ⟨hbx, hbw, p, q, rfl⟩ := hcut
      clear x0 x1 y0 y1 y2
      obtain ⟨_, x0, _, y0, _, _⟩ := hbx
      have HBW' := Lib.hid hbw
      clear hbw
      by_cases hvu : v = u
      · subst hvu
        have HV := Lib.hid (show fitB v bs v bo = decide ((lessL bo bs).length = 0) by simp [fitB])
        obtain ⟨m, hm⟩ : ∃ m, m = (lessL bo bs).length := ⟨_, rfl⟩
        rw [← hm] at HV ⊢
        clear hm
        have hee : (v == v) = true := by simp
        by_cases h0 : m = 0
        · subst h0
          go_wp2
          go_ret2
          refine RV_of ?_ HBW'.out
          rw [HV.out]; simp
        · have hne : ((m : Int) == 0) = false := by simpa using h0
          go_wp2
          go_ret2
          refine RV_of ?_ HBW'.out
          rw [HV.out]; simp [h0]
      · have HV := Lib.hid (show fitB v bs u bo = false by simp [fitB, hvu])
        have hne : (v == u) = false := by simpa using hvu
        go_wp2
        go_ret2
        refine RV_of ?_ HBW'.out
        rw [HV.out]
        rfl
end Go.Proofs.Ytacfelgilphppaa

namespace Go.Proofs.Ytacfelgilphppaa
open Go.RowKit Go.Maps
theorem less_all (bo bs : List Blk) : decide ((lessL bo bs).length = 0) = bo.all fun x => decide (x ∈ bs) := by
  rw [Bool.eq_iff_iff, decide_eq_true_eq, List.length_eq_zero_iff, lessL, List.filter_eq_nil_iff, List.all_eq_true]
  simp
set_option maxRecDepth 100000 in
set_option maxHeartbeats 2000000 in
theorem l04Fits_any (v : Int) (s : Value) (bs : List Blk) (u : Int) (so : Value) (bo : List Blk) (si : Value) (bi : List Blk) (w : World) (h : SB w s bs) (k : TB w so bo si bi) :
    Calls Try.prog 132 #[.agg #[.int .i64 v, s], .agg #[.int .i64 u, so, si]] w (RV (.bool (fitB v bs u bo)) w) := by
  have hs := h.slice
  have h1 := k.1.slice
  have h2 := k.2.slice
  have hl := k.1.2.1
  have HMB := Lib.hid fun x W (hb : Below w.heap.size w W) => l01Has_any v s bs x W (h.below hb (Nat.le_refl _))
  have KSB := Lib.hid k.1
  clear h k
  obtain ⟨a, c, rfl⟩ := hs
  obtain ⟨a1, c1, rfl⟩ := h1
  obtain ⟨a2, c2, rfl⟩ := h2
  have HB := Lib.hid (BoxST.new w v (.slice a bs.length c) u (.slice a1 bo.length c1) (.slice a2 bi.length c2))
  have HBW := Lib.hid (wST_below w v (.slice a bs.length c) u (.slice a1 bo.length c1) (.slice a2 bi.length c2))
  unfold fitB
  rw [less_all]
  by_cases hvu : v = u
  · subst hvu
    rw [decide_eq_true rfl, Bool.true_and]
    have hnn : (v != v) = false := by simp
    go_enter Try.func132, Try.ntmps132
    go_wp2_with fail
    go_loopw [5] (fun i wr => ∃ k : Nat, k ≤ bo.length ∧ i = .int .i64 k ∧ BoxST wr w.heap.size v (.slice a bs.length c) v (.slice a1 bo.length c1) (.slice a2 bi.length c2) ∧ Below w.heap.size w wr ∧ Hid ((bo.take k).all (fun x => decide (x ∈ bs)) = true)) (fun i _ => bo.length - (intOf i).toNat)
    case atStart => exact ⟨0, Nat.zero_le _, rfl, HB.out, HBW.out, Lib.hid (by simp)⟩
    case round =>
      obtain ⟨k, hk, rfl, hB, hBw, HD⟩ := hrel
      have hlt := hB.lt
      have q0 := hB.x0
      have q1 := hB.x1
      have q2 := hB.y1
      have HBX := Lib.hid hB
      have HBB := Lib.hid hBw
      by_cases hkl : k < bo.length
      · rcases KSB.out.2.2 with ⟨_, _, _, hnil⟩ | ⟨b, off, cap, hval, hblt, hbl⟩
        · rw [hnil] at hkl; simp at hkl
        · simp at hval
          obtain ⟨rfl, rfl⟩ := hval
          obtain ⟨x, hx, ex, x1, x2, x3⟩ := blks_at (hbl.below hBw hblt) hkl
          have g0 : (0 : Int) ≤ (k : Int) := by omega
          have g1 : (k : Int) < (bo.length : Int) := by omega
          have hnx : bo.take (k + 1) = bo.take k ++ [x] := by
            have e : bo[k] = x := by
              rw [List.getElem?_eq_getElem hkl] at ex
              simpa using ex
            rw [take_next hkl, e]
          have HNX := Lib.hid hnx
          have HX := Lib.hid hx
          have hmb := HMB.out x
          obtain ⟨p, q, r⟩ := x
          unfold bv at hmb
          dsimp only at hmb x1 x2 x3
          clear hnx hx ex hbl hB hBw
          by_cases hin : (⟨p, q, r⟩ : Blk) ∈ bs
          · rw [decide_eq_true hin] at hmb
            have HI := Lib.hid hin
            have HMX := Lib.hid hmb
            clear hin hmb
            go_upto_region 6 with fail
            go_cut [25] (fun o wx => o = .bool false ∧ BoxST wx w.heap.size v (.slice a bs.length c) v (.slice (some ⟨b, off, none⟩) bo.length c1) (.slice a2 bi.length c2) ∧ Below w.heap.size w wx)
            case first =>
              go_region_with (go_at_call 96; refine (HMX.out _ HBB.out.drew).mono ?_; rintro e w4 ⟨rfl, hb4⟩)
              all_goals
                go_wp2_with fail
                go_meet
                exact ⟨rfl, HBX.out.below (((Below.refl _ _).drew).trans hb4), HBB.out.drew.trans (hb4.mono HBB.out.size)⟩
            case rest =>
            obtain ⟨rfl, hbx, hbw⟩ := hcut
            have HBX1 := Lib.hid hbx
            have HBB1 := Lib.hid hbw
            clear hbx hbw
            go_wp2
            go_roundw
            case rel => exact ⟨k + 1, by omega, by go_num, HBX1.out, HBB1.out, Lib.hid (by
              have := HD.out
              rw [HNX.out, List.all_append, this]
              simpa using HI.out)⟩
            case measure => simp [intOf]; omega
          · rw [decide_eq_false hin] at hmb
            have HI := Lib.hid hin
            have HMX := Lib.hid hmb
            clear hin hmb
            go_upto_region 6 with fail
            go_cut [25] (fun o wx => o = .bool true ∧ Below w.heap.size w wx)
            case first =>
              go_region_with (go_at_call 96; refine (HMX.out _ HBB.out.drew).mono ?_; rintro e w4 ⟨rfl, hb4⟩)
              all_goals
                go_wp2_with fail
                go_meet
                exact ⟨rfl, HBB.out.drew.trans (hb4.mono HBB.out.size)⟩
            case rest =>
            obtain ⟨rfl, hbw⟩ := hcut
            go_wp2
            go_ret
            refine RV_of (bool_eq ?_) hbw
            symm
            rw [List.all_eq_false]
            exact ⟨_, HX.out, by simpa using HI.out⟩
      · go_wp2
        go_ret
        have e : k = bo.length := by omega
        subst e
        refine RV_of (bool_eq ?_) HBB.out
        have := HD.out
        rw [List.take_length] at this
        exact this.symm
  · rw [decide_eq_false hvu, Bool.false_and]
    have hne : (v != u) = true := by simpa using hvu
    go_enter Try.func132, Try.ntmps132
    go_wp2
    go_ret
    exact RV_of rfl HBW.out
set_option maxRecDepth 100000 in
set_option maxHeartbeats 2000000 in
theorem specFitsSystem_any (v : Int) (s : Value) (bs : List Blk) (u : Int) (so : Value) (bo : List Blk) (si : Value) (bi : List Blk) (w : World) (h : SB w s bs) (k : TB w so bo si bi) :
    Calls Try.prog 73 #[.agg #[.int .i64 v, s], .agg #[.int .i64 u, so, si]] w (RV (boolCode (fitF v bs u bo bi).1 (fitF v bs u bo bi).2) w) := by
  have hs := h.slice
  have h1 := k.1.slice
  have h2 := k.2.slice
  have HI := Lib.hid fun W (hb : Below w.heap.size w W) => l01Is_any v s bs W (h.below hb (Nat.le_refl _))
  have HT := Lib.hid fun W (hb : Below w.heap.size w W) => l04Is_any u so bo si bi W (k.below hb (Nat.le_refl _))
  have HF := Lib.hid fun W (hb : Below w.heap.size w W) => l04Fits_any v s bs u so bo si bi W (h.below hb (Nat.le_refl _)) (k.below hb (Nat.le_refl _))
  clear h k
  obtain ⟨a, c, rfl⟩ := hs
  obtain ⟨a1, c1, rfl⟩ := h1
  obtain ⟨a2, c2, rfl⟩ := h2
  have HB := Lib.hid (BoxST.new w v (.slice a bs.length c) u (.slice a1 bo.length c1) (.slice a2 bi.length c2))
  have HBW := Lib.hid (wST_below w v (.slice a bs.length c) u (.slice a1 bo.length c1) (.slice a2 bi.length c2))
  unfold fitF boolCode
  cases hi : isSysImpl v bs with
  | false =>
    rw [hi] at HI
    rw [Bool.false_and, if_neg (by simp)]
    clear hi HT HF
    go_enter Try.func73, Try.ntmps73
    go_wp2_with fail
    refine (HI.out (wST w v (.slice a bs.length c) u (.slice a1 bo.length c1) (.slice a2 bi.length c2)) HBW.out).mono ?_
    rintro e w1 ⟨rfl, hb1⟩
    have hB1 := HBW.out.trans (hb1.mono HBW.out.size)
    clear hb1
    go_wp2
    go_ret2
    exact RV_of rfl hB1
  | true =>
    rw [hi] at HI
    rw [Bool.true_and]
    clear hi
    cases ht : trdB u bo bi with
    | false =>
      rw [ht] at HT
      rw [if_neg (by simp)]
      clear ht HF
      go_enter Try.func73, Try.ntmps73
      go_wp2_with fail
      refine (HI.out (wST w v (.slice a bs.length c) u (.slice a1 bo.length c1) (.slice a2 bi.length c2)) HBW.out).mono ?_
      rintro e w1 ⟨rfl, hb1⟩
      obtain ⟨_, x0, x1, y0, y1, y2⟩ := HB.out.below hb1
      have hB1 := HBW.out.trans (hb1.mono HBW.out.size)
      clear hb1
      go_wp2_with fail
      refine (HT.out _ hB1).mono ?_
      rintro e w2 ⟨rfl, hb2⟩
      have hB2 := hB1.trans (hb2.mono hB1.size)
      clear hb2
      go_wp2
      go_ret2
      exact RV_of rfl hB2
    | true =>
      rw [ht] at HT
      rw [if_pos rfl]
      obtain ⟨β, hβ⟩ : ∃ β, β = fitB v bs u bo := ⟨_, rfl⟩
      rw [← hβ] at HF ⊢
      clear ht hβ
      go_enter Try.func73, Try.ntmps73
      go_wp2_with fail
      refine (HI.out (wST w v (.slice a bs.length c) u (.slice a1 bo.length c1) (.slice a2 bi.length c2)) HBW.out).mono ?_
      rintro e w1 ⟨rfl, hb1⟩
      have hbx1 := HB.out.below hb1
      obtain ⟨_, x0, x1, y0, y1, y2⟩ := id hbx1
      have HBX1 := Lib.hid hbx1
      have HB1 := Lib.hid (HBW.out.trans (hb1.mono HBW.out.size))
      clear hb1 hbx1
      go_wp2_with fail
      refine (HT.out _ HB1.out).mono ?_
      rintro e w2 ⟨rfl, hb2⟩
      have hbx2 := HBX1.out.below hb2
      clear x0 x1 y0 y1 y2
      obtain ⟨hlt2, x0, x1, y0, y1, y2⟩ := id hbx2
      have HBX2 := Lib.hid hbx2
      have HB2 := Lib.hid (HB1.out.trans (hb2.mono HB1.out.size))
      clear hb2 hbx2
      go_wp2_with fail
      refine (HF.out _ HB2.out).mono ?_
      rintro e w3 ⟨rfl, hb3⟩
      have hB3 := HB2.out.trans (hb3.mono HB2.out.size)
      clear hb3
      go_wp2
      go_ret2
      exact RV_of rfl hB3
end Go.Proofs.Ytacfelgilphppaa

namespace Go.Proofs.Ytacfelgilphppaa
def dblB (v : Int) (x : Blk) : List Blk := [⟨x.a, v + x.b, v + x.c⟩, ⟨x.b, v + x.a, v + x.c⟩, ⟨x.c, v + x.a, v + x.b⟩]
def dblP (v : Int) (k : Nat) : List Blk := (List.range k).map fun (a : Nat) => ⟨(a : Int), v + (a : Int), 2 * v⟩
theorem dblP_succ (v : Int) (k : Nat) : dblP v (k + 1) = dblP v k ++ [⟨(k : Int), v + (k : Int), 2 * v⟩] := by simp [dblP, List.range_succ]
theorem dblP_len (v : Int) (k : Nat) : (dblP v k).length = k := by simp [dblP]
def dblA (v : Int) (bs : List Blk) (k : Nat) : List Blk := bs ++ (bs.take k).flatMap (dblB v)
theorem dblA_succ {v : Int} {bs : List Blk} {k : Nat} (hk : k < bs.length) {x : Blk} (hx : bs[k]? = some x) : dblA v bs (k + 1) = dblA v bs k ++ dblB v x := by
  have e : bs[k] = x := by
    rw [List.getElem?_eq_getElem hk] at hx
    simpa using hx
  unfold dblA
  rw [List.take_succ_eq_append_getElem hk, e, List.flatMap_append, List.append_assoc]
  simp
theorem dblB_len (v : Int) : ∀ l : List Blk, (l.flatMap (dblB v)).length = 3 * l.length
  | [] => rfl
  | x :: r => by rw [List.flatMap_cons, List.length_append, dblB_len v r]; simp [dblB]; omega
theorem dblA_len (v : Int) (bs : List Blk) {k : Nat} (hk : k ≤ bs.length) : (dblA v bs k).length = bs.length + 3 * k := by
  unfold dblA
  rw [List.length_append, dblB_len, List.length_take, Nat.min_eq_left hk]
def dblL (v : Int) (bs : List Blk) : List Blk := dblA v bs bs.length ++ dblP v v.toNat
theorem dblL_len (v : Int) (bs : List Blk) : (dblL v bs).length = bs.length + 3 * bs.length + v.toNat := by
  unfold dblL
  rw [List.length_append, dblA_len v bs (Nat.le_refl _), dblP_len]
theorem dblL_mem {v : Int} (hv : 0 ≤ v) (hv15 : v ≤ 15) {bs : List Blk} (hg : ∀ x ∈ bs, goodB v x = true) : ∀ x ∈ dblL v bs, (0 ≤ x.a ∧ x.a ≤ 1000) ∧ (0 ≤ x.b ∧ x.b ≤ 1000) ∧ (0 ≤ x.c ∧ x.c ≤ 1000) := by
  intro x hx
  unfold dblL dblA at hx
  rw [List.take_length] at hx
  rcases List.mem_append.1 hx with hx | hx
  · rcases List.mem_append.1 hx with hx | hx
    · have := goodB_iff.1 (hg x hx); omega
    · obtain ⟨y, hy, hxy⟩ := List.mem_flatMap.1 hx
      have := goodB_iff.1 (hg y hy)
      simp only [dblB, List.mem_cons, List.not_mem_nil, or_false] at hxy
      rcases hxy with rfl | rfl | rfl <;> (dsimp only; omega)
  · obtain ⟨a, ha, rfl⟩ := List.mem_map.1 hx
    have := List.mem_range.1 ha
    dsimp only
    omega
/-- The smallest, the middle and the greatest of three. -/
def blk3 (a b c : Int) : Blk := ⟨min (min a b) c, a + b + c - min (min a b) c - max (max a b) c, max (max a b) c⟩
theorem blk3_of {a b c p q r : Int} (hp : p = min (min a b) c) (hr : r = max (max a b) c) (hq : q = a + b + c - p - r) : blk3 a b c = ⟨p, q, r⟩ := by
  unfold blk3
  rw [← hp, ← hr, ← hq]
end Go.Proofs.Ytacfelgilphppaa

namespace Go.Proofs.Ytacfelgilphppaa
/-- A system and a code: points, blocks, code. -/
def takeF (v : Int) (bs : List Blk) (i : Int) : Int × List Blk × Int :=
  if isSysImpl v bs then (if decide (0 ≤ i) && decide (i < (bs.length : Int)) then (v, bs.take i.toNat ++ bs.drop (i.toNat + 1), 0) else (0, [], 2)) else (0, [], 1)
theorem filter_all {p : Blk → Bool} : ∀ {l : List Blk}, (∀ x ∈ l, p x = true) → l.filter p = l
  | [], _ => rfl
  | x :: r, h => by rw [List.filter_cons, if_pos (h x (by simp)), filter_all (fun y hy => h y (by simp [hy]))]
/-- The blocks that are not the i-th. -/
theorem filter_other {bs : List Blk} (h : bs.Nodup) {i : Nat} (hi : i < bs.length) : bs.filter (fun x => !decide (x = bs[i])) = bs.take i ++ bs.drop (i + 1) := by
  have e : bs = bs.take i ++ bs[i] :: bs.drop (i + 1) := by rw [← List.drop_eq_getElem_cons hi, List.take_append_drop]
  obtain ⟨y, hy⟩ : ∃ y, y = bs[i] := ⟨_, rfl⟩
  rw [← hy] at e ⊢
  clear hy
  obtain ⟨p, hp⟩ : ∃ p, p = bs.take i := ⟨_, rfl⟩
  obtain ⟨q, hq⟩ : ∃ q, q = bs.drop (i + 1) := ⟨_, rfl⟩
  rw [← hp, ← hq] at e ⊢
  clear hp hq hi
  subst e
  obtain ⟨h1, h2, h3⟩ := List.nodup_append.1 h
  rw [List.nodup_cons] at h2
  rw [List.filter_append, List.filter_cons, if_neg (by simp)]
  rw [filter_all (fun x hx => by have := h3 x hx y (by simp); simpa using this), filter_all (fun x hx => by
    have : x ≠ y := fun e => h2.1 (e ▸ hx)
    simpa using this)]
theorem takeF_sub (v : Int) (bs : List Blk) (i : Int) : ∀ x ∈ (takeF v bs i).2.1, x ∈ bs := by
  unfold takeF
  split
  · split
    · intro x hx
      rcases List.mem_append.1 hx with h | h
      · exact List.mem_of_mem_take h
      · exact List.mem_of_mem_drop h
    · simp
  · simp
theorem takeF_len (v : Int) (bs : List Blk) (i : Int) : (takeF v bs i).2.1.length ≤ bs.length := by
  unfold takeF
  split
  · split
    · simp
      omega
    · simp
  · simp
end Go.Proofs.Ytacfelgilphppaa

namespace Go.Proofs.Ytacfelgilphppaa
open Go.RowKit Go.Maps
/-- Two results: a system in new memory, and a code. -/
def RSys (r : Int × List Blk × Int) (w : World) (e : Ending) (w' : World) : Prop := ∃ s, e = .returned (.tuple #[.agg #[.int .i64 r.1, s], .int .i64 r.2.2]) ∧ ResR w' w.heap.size w'.heap.size s r.2.1 ∧ Below w.heap.size w w'
theorem boxes2 {w w1 : World} {v : Int} {s : Value} {T : TypeId} (hb : Below ((w.alloc (.cells #[.int .i64 v, s] T)).alloc (.cells #[.int .i64 0, .slice none 0 0] T)).heap.size ((w.alloc (.cells #[.int .i64 v, s] T)).alloc (.cells #[.int .i64 0, .slice none 0 0] T)) w1) :
    w1.cell? ⟨w.heap.size, 0, none⟩ = some (.int .i64 v) ∧ w1.cell? ⟨w.heap.size, 1, none⟩ = some s ∧ w1.cell? ⟨w.heap.size + 1, 0, none⟩ = some (.int .i64 0) ∧ w1.cell? ⟨w.heap.size + 1, 1, none⟩ = some (.slice none 0 0) ∧
    w1.frozen? ⟨w.heap.size + 1, 0, none⟩ = false ∧ w1.frozen? ⟨w.heap.size + 1, 1, none⟩ = false ∧ Below w.heap.size w w1 ∧ w.heap.size + 1 < w1.heap.size := by
  have hz := hb.size
  simp at hz
  refine ⟨?_, ?_, ?_, ?_, ?_, ?_, (((Below.refl _ _).alloc (Nat.le_refl _) _).alloc (by simp) _).trans (hb.mono (by simp; omega)), by omega⟩
  · exact (hb.cell (p := ⟨w.heap.size, 0, none⟩) (by simp; omega)).trans (by simp [go_sem])
  · exact (hb.cell (p := ⟨w.heap.size, 1, none⟩) (by simp; omega)).trans (by simp [go_sem])
  · exact (hb.cell (p := ⟨w.heap.size + 1, 0, none⟩) (by simp)).trans (by simp [go_sem])
  · exact (hb.cell (p := ⟨w.heap.size + 1, 1, none⟩) (by simp)).trans (by simp [go_sem])
  · exact (hb.frozen (p := ⟨w.heap.size + 1, 0, none⟩) (by simp)).trans (by simp [go_sem])
  · exact (hb.frozen (p := ⟨w.heap.size + 1, 1, none⟩) (by simp)).trans (by simp [go_sem])
theorem below2 (w : World) (v : Int) (s : Value) (T : TypeId) : Below w.heap.size w ((w.alloc (.cells #[.int .i64 v, s] T)).alloc (.cells #[.int .i64 0, .slice none 0 0] T)) := ((Below.refl _ _).alloc (Nat.le_refl _) _).alloc (by simp) _
theorem below_set2 {B : Nat} {a w : World} (h : Below B a w) {b : Nat} (hb : B ≤ b) (u v : Value) : Below B a ((w.setCell ⟨b, 0, none⟩ u).setCell ⟨b, 1, none⟩ v) := (h.setCell (p := ⟨b, 0, none⟩) hb u).setCell (p := ⟨b, 1, none⟩) hb v
theorem gb_set2 (w : World) (b : Nat) (u v : Value) : w.grownBy ((w.setCell ⟨b, 0, none⟩ u).setCell ⟨b, 1, none⟩ v) (some b) := only_setCell (only_setCell (only_refl w (some b)) rfl u) rfl v
end Go.Proofs.Ytacfelgilphppaa

namespace Go.Proofs
open Go.Shelf
def Try.sortB_ren : Go.Shelf.Ren := ⟨fun | 6 => 195 | 15 => 181 | 14 => 239 | 28 => 225 | 29 => 226 | 20 => 255 | 21 => 256 | 22 => 257 | 23 => 258 | 24 => 259 | 25 => 260 | 26 => 261 | 27 => 262 | 46 => 266 | 47 => 247 | 48 => 248 | 49 => 267 | 50 => 268 | 57 => 270 | n => n, fun | 22 => 29 | 24 => 93 | 25 => 144 | 3 => 3 | 39 => 158 | 0 => 0 | 53 => 206 | 55 => 146 | 4 => 4 | 46 => 199 | 45 => 198 | 50 => 203 | 5 => 5 | 9 => 9 | 66 => 223 | 70 => 227 | 76 => 236 | 77 => 237 | n => n, fun | n => n⟩
theorem Try.sortB : Go.Proofs.SlLaysF0.n6 Try.prog Try.sortB_ren := {
  mixed := by kernel_rfl
  f6 := ⟨Try.f195.name, by decide, Try.func195.trans (congrArg some (by kernel_rfl))⟩
  f14 := ⟨Try.f239.name, by decide, Try.func239.trans (congrArg some (by kernel_rfl))⟩
  f15 := Try.func181.trans (congrArg some (by kernel_rfl))
  f20 := ⟨Try.f255.name, by decide, Try.func255.trans (congrArg some (by kernel_rfl))⟩
  f21 := ⟨Try.f256.name, by decide, Try.func256.trans (congrArg some (by kernel_rfl))⟩
  f22 := ⟨Try.f257.name, by decide, Try.func257.trans (congrArg some (by kernel_rfl))⟩
  f23 := ⟨Try.f258.name, by decide, Try.func258.trans (congrArg some (by kernel_rfl))⟩
  f24 := ⟨Try.f259.name, by decide, Try.func259.trans (congrArg some (by kernel_rfl))⟩
  f25 := ⟨Try.f260.name, by decide, Try.func260.trans (congrArg some (by kernel_rfl))⟩
  f26 := ⟨Try.f261.name, by decide, Try.func261.trans (congrArg some (by kernel_rfl))⟩
  f27 := ⟨Try.f262.name, by decide, Try.func262.trans (congrArg some (by kernel_rfl))⟩
  f28 := Try.func225.trans (congrArg some (by kernel_rfl))
  f29 := Try.func226.trans (congrArg some (by kernel_rfl))
  f46 := ⟨Try.f266.name, by decide, Try.func266.trans (congrArg some (by kernel_rfl))⟩
  f47 := Try.func247.trans (congrArg some (by kernel_rfl))
  f48 := Try.func248.trans (congrArg some (by kernel_rfl))
  f49 := ⟨Try.f267.name, by decide, Try.func267.trans (congrArg some (by kernel_rfl))⟩
  f50 := ⟨Try.f268.name, by decide, Try.func268.trans (congrArg some (by kernel_rfl))⟩
  f57 := ⟨Try.f270.name, by decide, Try.func270.trans (congrArg some (by kernel_rfl))⟩
  t0 := Try.underlying0
  a0 := Try.isAgg0
  z0 := Try.sizeOf0
  v0 := Try.zeroValue0
  t3 := Try.underlying3
  a3 := Try.isAgg3
  z3 := Try.sizeOf3
  v3 := Try.zeroValue3
  t4 := Try.underlying4
  a4 := Try.isAgg4
  z4 := Try.sizeOf4
  v4 := Try.zeroValue4
  t5 := Try.underlying5
  a5 := Try.isAgg5
  z5 := Try.sizeOf5
  v5 := Try.zeroValue5
  t9 := Try.underlying9
  a9 := Try.isAgg9
  z9 := Try.sizeOf9
  v9 := Try.zeroValue9
  t22 := Try.underlying29
  a22 := Try.isAgg29
  z22 := Try.sizeOf29
  v22 := Try.zeroValue29
  t25 := Try.underlying144
  a25 := Try.isAgg144
  z25 := Try.sizeOf144
  v25 := Try.zeroValue144
  t39 := Try.underlying158
  a39 := Try.isAgg158
  z39 := Try.sizeOf158
  v39 := Try.zeroValue158
  t45 := Try.underlying198
  a45 := Try.isAgg198
  z45 := Try.sizeOf198
  v45 := Try.zeroValue198
  t46 := Try.underlying199
  a46 := Try.isAgg199
  z46 := Try.sizeOf199
  v46 := Try.zeroValue199
  t50 := Try.underlying203
  a50 := Try.isAgg203
  z50 := Try.sizeOf203
  v50 := Try.zeroValue203
  t53 := Try.underlying206
  a53 := Try.isAgg206
  z53 := Try.sizeOf206
  v53 := Try.zeroValue206
  t55 := Try.underlying146
  a55 := Try.isAgg146
  z55 := Try.sizeOf146
  v55 := Try.zeroValue146
  t66 := Try.underlying223
  a66 := Try.isAgg223
  z66 := Try.sizeOf223
  v66 := Try.zeroValue223
  t70 := Try.underlying227
  a70 := Try.isAgg227
  z70 := Try.sizeOf227
  v70 := Try.zeroValue227
  t76 := Try.underlying236
  a76 := Try.isAgg236
  z76 := Try.sizeOf236
  v76 := Try.zeroValue236
  t77 := Try.underlying237
  a77 := Try.isAgg237
  z77 := Try.sizeOf237
  v77 := Try.zeroValue237 }
end Go.Proofs

namespace Go.Proofs.Ytacfelgilphppaa
open Go.RowKit Go.Maps Go.Sort Go.Shelf
theorem aggB (w : World) : (isAgg 93).run Try.prog w = .ok true w := by kernel_rfl
theorem szB (w : World) : (Go.sizeOf 93).run Try.prog w = .ok 3 w := by kernel_rfl
theorem one3 : ∀ x : Blk, ∀ v ∈ cells3 x, v.oneCell' = true := fun x v hv => by
  simp [cells3] at hv
  rcases hv with rfl | rfl | rfl <;> rfl
theorem cmpLays (blk off size : Nat) (w : World) : CmpLays Try.prog 162 #[] cells3 3 cmpB blk off size w := fun _ _ _ _ x y => compareBlocks_lays x y _
theorem sortFunc_any (base : Nat) (s : Value) (bs : List Blk) (w : World) (h : OwnR w base s bs) (hl : bs.length ≤ 1100000) :
    Calls Try.prog 195 #[s, .func (.func 162) #[] #[]] w fun e w' => e = .returned (.tuple #[]) ∧ OwnR w' base s (sortB bs) ∧ w.grownBy w' s.ownBlock := by
  obtain ⟨a, c, rfl⟩ : ∃ a c, s = .slice a bs.length c := by
    rcases h.res with ⟨rfl, a, c, rfl⟩ | ⟨g, cap, rfl, _⟩ <;> exact ⟨_, _, rfl⟩
  rcases h.2 with ⟨hv, h0⟩ | ⟨g, cap, cur, hv, hb, hcur, hrest⟩
  · have e0 : bs = [] := List.length_eq_zero_iff.1 h0
    subst e0
    cases hv
    have hS := AnyF.slices_SortFunc_none (P := Try.prog) (ρ := Try.sortB_ren) { Try.sortB with } none 0 (.func (.func 162) #[] #[]) w
    refine Calls.mono hS ?_
    rintro e w' ⟨rfl, rfl⟩
    exact ⟨rfl, h, only_refl _ _⟩
  · cases hv
    have hat := h.at_.2.2
    have eg : ∀ args w, (callFunc 162 args).run Try.prog w = .ok (.enter 162 args) w := enters_of Try.func162 (by kernel_rfl) rfl
    have hS := AnyQ.slices_SortFunc_total Try.sortB 3 aggB szB cells3 (fun _ => rfl) one3 cmpB swoB 162 #[] g 0 c bs.toArray w eg (cmpLays _ _ _ _) hat.holds hat.lt (by simp; omega) totB
    rw [List.size_toArray] at hS
    refine Calls.mono hS ?_
    rintro e w' ⟨rfl, n, os, rfl⟩
    have hm := mergeB bs
    have ho := h.sorted (cs := sortB bs) (sortB_length bs) n os
    rw [← hm] at ho
    rw [← hm]
    exact ⟨rfl, ho⟩
theorem OwnR.formS {w : World} {base : Nat} {s : Value} {bs : List Blk} (h : OwnR w base s bs) : ∃ a c, s = .slice a bs.length c := by
  rcases h.res with ⟨rfl, a, c, rfl⟩ | ⟨g, cap, rfl, _⟩ <;> exact ⟨_, _, rfl⟩
theorem gb_setnew {a w : World} {row : Option Nat} (h : a.grownBy w row) {p : Addr} (hp : a.heap.size ≤ p.block) (u : Value) : a.grownBy (w.setCell p u) row :=
  ⟨h.os, h.tape, h.output, by simpa [World.setCell] using h.size, fun i hi hne => (Below.heap_setCell w p u i (by omega)).trans (h.block i hi hne)⟩
set_option maxRecDepth 100000 in
theorem systemFrom_any (v : Int) (base : Nat) (s : Value) (bs : List Blk) (w : World) (h : OwnR w base s bs) (hl : bs.length ≤ 1100000) (hb : base ≤ w.heap.size) :
    Calls Try.prog 135 #[.int .i64 v, s] w fun e w' => e = .returned (.agg #[.int .i64 v, s]) ∧ OwnR w' base s (sortB bs) ∧ w.grownBy w' s.ownBlock := by
  have hS := sortFunc_any base s bs (w.alloc (.cells #[.int .i64 0, .slice none 0 0] 31)) (h.below ((Below.refl _ _).alloc (Nat.le_refl _) _) (Nat.le_refl _)) hl
  have hrow := h.row
  have hlt : ∀ r, s.ownBlock = some r → r < w.heap.size := fun r e => by
    rcases h.2 with ⟨hv, h0⟩ | ⟨g, cap, cur, hv, hb, hcur, hrest⟩
    · rw [hv] at e; simp [Value.ownBlock] at e
    · rw [hv] at e
      obtain rfl : g = r := by simpa [Value.ownBlock] using e
      exact (Array.getElem?_eq_some_iff.1 hcur).1
  have HLT := Lib.hid hlt
  have HS := Lib.hid hS
  obtain ⟨a, c, hs⟩ := h.formS
  clear hS h hrow hlt
  subst hs
  go_enter Try.func135, Try.ntmps135
  go_wp2_with fail
  refine HS.out.mono ?_
  rintro e w1 ⟨rfl, ho, hg⟩
  have hz := hg.size
  simp at hz
  have d0 : w1.cell? ⟨w.heap.size, 0, none⟩ = some (.int .i64 0) := hg.cell (by simp [go_sem]) (fun e => by have := HLT.out _ e.symm; simp at this)
  have d1 : w1.cell? ⟨w.heap.size, 1, none⟩ = some (.slice none 0 0) := hg.cell (by simp [go_sem]) (fun e => by have := HLT.out _ e.symm; simp at this)
  have hblk := hg.block w.heap.size (by simp) (fun e => by have := HLT.out _ e.symm; omega)
  have f0 : w1.frozen? ⟨w.heap.size, 0, none⟩ = false := (World.frozen?_of_block (a := ⟨w.heap.size, 0, none⟩) hblk).trans (by simp [go_sem])
  have f1 : w1.frozen? ⟨w.heap.size, 1, none⟩ = false := (World.frozen?_of_block (a := ⟨w.heap.size, 1, none⟩) hblk).trans (by simp [go_sem])
  have HO := Lib.hid (And.intro ho hg)
  clear ho hg hblk
  go_wp2
  refine bodyPost_ret (v := .agg #[.int .i64 v, .slice a bs.length c]) (by simp [results, Try.results135, go_sem, *]) rfl ⟨rfl, ?_, ?_⟩
  · exact World.ownsRow.kept HO.out.1 (gb_set2 w1 w.heap.size (.int .i64 v) (.slice a bs.length c)) (.inr fun e => by have := HLT.out w.heap.size (by first | exact e | exact e.symm); omega)
  · exact gb_setnew (p := ⟨w.heap.size, 1, none⟩) (gb_setnew (p := ⟨w.heap.size, 0, none⟩) (gb_trans (World.grownBy_alloc w _ none) HO.out.2) (Nat.le_refl _) _) (Nat.le_refl _) _
end Go.Proofs.Ytacfelgilphppaa

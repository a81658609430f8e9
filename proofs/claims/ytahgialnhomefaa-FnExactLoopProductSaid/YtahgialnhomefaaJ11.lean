
/- spec.l02Square. The model's sets of blocks. MeetingBlocks of the model. The numbers from 0 on: plain. blockNumbers. slices.Contains at a slice that may be nil. oneIf. BlockGraphDegrees and CommonNeighbours of the program. Products of points and elements of the loop: the two products of the program. A table whose rows grow by appends, one after the other. -/
import Derived.Test.YtahgialnhomefaaJ10
import Derived.Deep.QuietTactic
import Derived.BigQuiet
import Derived.IntWalk
namespace Go.Proofs.Ytahgialnhomefaa
open Go.RowKit Go.Maps
theorem IB.pos {w : World} {a : Option Addr} {n c : Nat} {t : List Int} (h : IB w (.slice a n c) t) (h3 : 0 < t.length) : ∃ b off, a = some ⟨b, off, none⟩ ∧ n = t.length ∧ b < w.heap.size ∧ Ints w b off t := by
  rcases h.2 with ⟨_, _, _, rfl⟩ | ⟨b, off, cap, e, hlt, hr⟩
  · simp at h3
  · simp at e
    obtain ⟨rfl, rfl, rfl⟩ := e
    exact ⟨b, off, rfl, rfl, hlt, hr⟩
theorem wrap_pow0 {t : Int} (h1 : 0 ≤ t) (h7 : t ≤ 7) : IntKind.i64.wrap (2 ^ t.toNat) = ((2 ^ t.toNat : Nat) : Int) ∧ IntKind.u64.wrap t = t := by
  have : t = 0 ∨ t = 1 ∨ t = 2 ∨ t = 3 ∨ t = 4 ∨ t = 5 ∨ t = 6 ∨ t = 7 := by omega
  rcases this with rfl | rfl | rfl | rfl | rfl | rfl | rfl | rfl <;> decide
theorem sqB_false1 {n x : Nat} {F : Nat → List Int} (hx : x < n) (h : isRen (n : Int) (F x) = false) : sqB n F = false := by
  rw [sqB, rowsOk_false hx h]; simp
theorem sqB_false2 {n x : Nat} {F : Nat → List Int} (hx : x < n) (h : isRen (n : Int) (col n F x) = false) : sqB n F = false := by
  rw [sqB, colsOk_false hx h]; simp
theorem isRen_out {n : Nat} {p : List Int} {z : Int} (h : z ∈ p) (hz : ¬ (0 ≤ z ∧ z < (n : Int))) : isRen (n : Int) p = false := by
  rcases e : isRen (n : Int) p with _ | _
  · rfl
  · exact absurd ((isRen_iff.1 e).2.1 z h) hz
theorem take_nx {l : List Int} {k : Nat} (h : k < l.length) : l.take (k + 1) = l.take k ++ [l[k]?.getD 0] := by
  rw [List.take_succ_eq_append_getElem h]; simp [h]
theorem colK_col (n : Nat) (F : Nat → List Int) (y : Nat) : colK F y n = col n F y := rfl
end Go.Proofs.Ytahgialnhomefaa

namespace Go.Proofs.Ytahgialnhomefaa
open Go.RowKit Go.Maps
/-- The code of a system and a set of its blocks. -/
def nsCode (v : Int) (bs : List Blk) (zs : List Int) : Int := if isSysImpl v bs then (if ptGo (bs.length : Int) none zs then 0 else 2) else 1
theorem ptGo_at {v : Int} {zs : List Int} {k : Nat} (hk : k < zs.length) (p : Option Int) : ptGo v p (zs.drop k) = (inP v (zs[k]?.getD 0) && (match p with | none => true | some q => decide (q < zs[k]?.getD 0)) && ptGo v (some (zs[k]?.getD 0)) (zs.drop (k + 1))) := by
  rw [List.drop_eq_getElem_cons hk]
  cases p <;> simp [ptGo, hk]
end Go.Proofs.Ytahgialnhomefaa

namespace Go.Proofs.Ytahgialnhomefaa
open Go.RowKit Go.Maps
theorem commonN_pos {x y : Blk} : 0 < commonN x y ↔ (x.a = y.a ∨ x.a = y.b ∨ x.a = y.c ∨ x.b = y.a ∨ x.b = y.b ∨ x.b = y.c ∨ x.c = y.a ∨ x.c = y.b ∨ x.c = y.c) := by
  constructor
  · intro h
    apply Classical.byContradiction
    intro hc
    simp only [not_or] at hc
    obtain ⟨h1, h2, h3, h4, h5, h6, h7, h8, h9⟩ := hc
    unfold commonN eq1 at h
    rw [if_neg h1, if_neg h2, if_neg h3, if_neg h4, if_neg h5, if_neg h6, if_neg h7, if_neg h8, if_neg h9] at h
    omega
  · rintro (h | h | h | h | h | h | h | h | h) <;> (unfold commonN eq1; rw [if_pos h]; omega)
theorem touch_common (x y : Blk) : touch y x = decide (0 < commonN x y) := by
  rw [Bool.eq_iff_iff, touch_iff, decide_eq_true_eq, commonN_pos]
  unfold ptsB
  simp only [List.mem_cons, List.not_mem_nil, or_false]
  constructor
  · rintro ⟨z, rfl | rfl | rfl, h | h | h⟩ <;> simp [h]
  · rintro (h | h | h | h | h | h | h | h | h)
    · exact ⟨y.a, by simp, by simp [h]⟩
    · exact ⟨y.b, by simp, by simp [h]⟩
    · exact ⟨y.c, by simp, by simp [h]⟩
    · exact ⟨y.a, by simp, by simp [h]⟩
    · exact ⟨y.b, by simp, by simp [h]⟩
    · exact ⟨y.c, by simp, by simp [h]⟩
    · exact ⟨y.a, by simp, by simp [h]⟩
    · exact ⟨y.b, by simp, by simp [h]⟩
    · exact ⟨y.c, by simp, by simp [h]⟩
def numCode (v : Int) (bs : List Blk) (i : Int) : Int := if isSysImpl v bs then (if inP (bs.length : Int) i then 0 else 2) else 1
set_option maxRecDepth 100000 in
theorem l05Number_any (v : Int) (s : Value) (bs : List Blk) (i : Int) (w : World) (h : SB w s bs) :
    Calls Try.prog 76 #[.agg #[.int .i64 v, s], .int .i64 i] w (RV (.int .i64 (numCode v bs i)) w) := by
  have hs := h.slice
  have hc := l01Is_any v s bs (w.alloc (.cells #[.int .i64 v, s] 30)) (h.below ((Below.refl _ _).alloc (Nat.le_refl _) _) (Nat.le_refl _))
  have hlen := h.2.1
  clear h
  obtain ⟨a0, c0, rfl⟩ := hs
  cases hi : isSysImpl v bs with
  | false =>
    rw [hi] at hc
    have HC := Lib.hid hc
    have HV := Lib.hid (show numCode v bs i = 1 by simp [numCode, hi])
    clear hc hi
    go_enter Try.func76, Try.ntmps76
    go_wp2_with fail
    refine HC.out.mono ?_
    rintro e w1 ⟨rfl, hb1⟩
    have hb2 := below_new hb1
    go_wp2
    go_ret
    exact RV_of (int_eq (by rw [HV.out])) hb2
  | true =>
    rw [hi] at hc
    have HC := Lib.hid hc
    have HV := Lib.hid (show numCode v bs i = if inP (bs.length : Int) i then 0 else 2 by simp [numCode, hi])
    clear hc hi
    have hwn : IntKind.i64.wrap ((bs.length : Int) - 1) = (bs.length : Int) - 1 := IntWalk.i64_in _ (by omega)
    have HIN := Lib.hid fun W => l01In_any i 0 ((bs.length : Int) - 1) W
    have hinp : (decide (0 ≤ i) && decide (i ≤ (bs.length : Int) - 1)) = inP (bs.length : Int) i := by rw [Bool.eq_iff_iff]; simp [inP]; omega
    rw [hinp] at HIN
    clear hinp
    cases hin : inP (bs.length : Int) i with
    | true =>
      rw [hin] at HIN
      have HW := Lib.hid (show numCode v bs i = 0 by rw [HV.out, hin]; rfl)
      clear hin HV
      go_enter Try.func76, Try.ntmps76
      go_wp2_with fail
      refine HC.out.mono ?_
      rintro e w1 ⟨rfl, hb1⟩
      have hb2 := below_new hb1
      have p1 := cell_new hb1 1 rfl
      clear hb1
      go_wp2_with fail
      refine (HIN.out _).mono ?_
      rintro e w2 ⟨rfl, rfl⟩
      go_wp2
      go_ret
      exact RV_of (int_eq (by rw [HW.out])) hb2
    | false =>
      rw [hin] at HIN
      have HW := Lib.hid (show numCode v bs i = 2 by rw [HV.out, hin]; rfl)
      clear hin HV
      go_enter Try.func76, Try.ntmps76
      go_wp2_with fail
      refine HC.out.mono ?_
      rintro e w1 ⟨rfl, hb1⟩
      have hb2 := below_new hb1
      have p1 := cell_new hb1 1 rfl
      clear hb1
      go_wp2_with fail
      refine (HIN.out _).mono ?_
      rintro e w2 ⟨rfl, rfl⟩
      go_wp2
      go_ret
      exact RV_of (int_eq (by rw [HW.out])) hb2
end Go.Proofs.Ytahgialnhomefaa

namespace Go.Proofs.Ytahgialnhomefaa
def numL (m : Nat) : List Int := (List.range m).map fun (k : Nat) => (k : Int)
theorem numL_succ (m : Nat) : numL (m + 1) = numL m ++ [(m : Int)] := by simp [numL, List.range_succ]
theorem numL_len (m : Nat) : (numL m).length = m := by simp [numL]
theorem numL_asc (m : Nat) : (numL m).Pairwise (· ≤ ·) := by
  unfold numL
  rw [List.pairwise_map]
  exact List.pairwise_lt_range.imp (by intro a b h; omega)
theorem numL_nodup (m : Nat) : (numL m).Nodup := by
  unfold numL
  rw [List.Nodup, List.pairwise_map]
  exact List.nodup_range.imp fun h e => h (by omega)
end Go.Proofs.Ytahgialnhomefaa

namespace Go.Proofs.Ytahgialnhomefaa
open Go.RowKit Go.Maps
set_option maxRecDepth 100000 in
theorem blockNumbers_any (v : Int) (s : Value) (bs : List Blk) (w : World) (h : SB w s bs) :
    Calls Try.prog 74 #[.agg #[.int .i64 v, s]] w (fun e w' => ∃ u, e = .returned u ∧ OwnJ w' w.heap.size u (numL bs.length) ∧ Below w.heap.size w w') := by
  have hs := h.slice
  have hl := h.2.1
  clear h
  obtain ⟨a0, c0, rfl⟩ := hs
  obtain ⟨N, hN⟩ : ∃ N, N = bs.length := ⟨_, rfl⟩
  rw [← hN] at hl ⊢
  clear hN
  have hb0 : Below w.heap.size w (w.alloc (.cells #[.int .i64 v, .slice a0 N c0] 30)) := (Below.refl _ _).alloc (Nat.le_refl _) _
  have HB0 := Lib.hid hb0
  clear hb0
  go_enter Try.func74, Try.ntmps74
  go_wp2_with fail
  go_loopw [3, 8] (fun o i wr => ∃ k : Nat, k ≤ N ∧ i = .int .i64 k ∧ Below w.heap.size w wr ∧ OwnJ wr w.heap.size o (numL k) ∧ ∃ a n c, o = .slice a n c) (fun _ i _ => N - (intOf i).toNat)
  case atStart => exact ⟨0, Nat.zero_le _, rfl, HB0.out, OwnJ.nil _ _, _, _, _, rfl⟩
  case round =>
    obtain ⟨k, hk, rfl, hB, hO, hform⟩ := hrel
    have hz := hB.size
    obtain ⟨a3, n3, c3, rfl⟩ := hform
    have HO := Lib.hid hO
    have hln := numL_len k
    have HSU := Lib.hid (numL_succ k)
    have hle : (numL k).length ≤ 1100000 := by omega
    clear hO hln
    by_cases hkl : k < N
    · go_wp2_with (at_builtin; refine wpList_append_int rfl _ _ rfl w.heap.size _ (numL k) rfl (HO.out.below ((Below.refl _ _).alloc (Nat.le_refl _) _) (Nat.le_refl _)) _ _ (k : Int) rfl (by simp [go_sem]) hle (by simp; omega) ?_; intro g' cap' w4 hO4 hg4)
      have hrow := HO.out.row
      have hgo := gb_trans (World.grownBy_alloc _ _ none) hg4
      clear hg4
      go_roundw
      case rel => exact ⟨k + 1, by omega, by go_num, hB.grown hgo hz (fun j e => hrow j e), by rw [HSU.out]; exact hO4, _, _, _, rfl⟩
      case measure => simp [intOf]; omega
    · have e : k = N := by omega
      subst e
      go_wp2
      go_ret
      exact ⟨_, rfl, HO.out, hB⟩
theorem OwnJ.slice {w : World} {base : Nat} {u : Value} {zs : List Int} (h : OwnJ w base u zs) : ∃ a c, u = .slice a zs.length c := by
  rcases h.2 with ⟨rfl, h0⟩ | ⟨g, cap, cur, rfl, _⟩
  · exact ⟨none, 0, by rw [h0]⟩
  · exact ⟨_, _, rfl⟩
end Go.Proofs.Ytahgialnhomefaa

namespace Go.Proofs.Ytahgialnhomefaa
open Go.RowKit Go.Maps Go.Shelf
theorem Index_nil (a : Option Addr) (c : Nat) (p : Int) (w : World) : Calls Try.prog 111 #[.slice a 0 c, .int .i64 p] w fun e w' => e = .returned (.int .i64 (-1)) ∧ w = w' := by
  go_enter Try.func111, Try.ntmps111
  go_wp2
  refine wp_loop_rounds 1 ?_
  rw [rounds_succ]
  go_wp2
  go_ret
  exact ⟨rfl, rfl⟩
theorem ContainsI_any (s : Value) (zs : List Int) (p : Int) (w : World) (h : IB w s zs) : Calls Try.prog 79 #[s, .int .i64 p] w (RS (.bool (inL p zs)) w) := by
  rcases h.2 with ⟨a, c, rfl, rfl⟩ | ⟨b, off, cap, rfl, _, hr⟩
  · go_enter Try.func79, Try.ntmps79
    go_wp2_with (go_at_call 111; refine (Index_nil _ _ _ _).mono ?_; rintro e w' ⟨rfl, rfl⟩)
    go_ret
    exact RS_of rfl
  · exact Contains_any b off cap zs p w hr (by have := h.1; omega)
end Go.Proofs.Ytahgialnhomefaa

namespace Go.Proofs.Ytahgialnhomefaa
open Go.RowKit Go.Maps
theorem oneIf_any (b : Bool) (w : World) : Calls Try.prog 78 #[.bool b] w (RS (.int .i64 (if b then 1 else 0)) w) := by
  cases b with
  | false =>
    go_enter Try.func78, Try.ntmps78
    go_wp2
    go_ret
    exact RS_of rfl
  | true =>
    go_enter Try.func78, Try.ntmps78
    go_wp2
    go_ret
    exact RS_of rfl
end Go.Proofs.Ytahgialnhomefaa

namespace Go.Proofs.Ytahgialnhomefaa
open Go.RowKit Go.Maps
/-- A number of a list in memory. -/
theorem IB.get {w : World} {a : Option Addr} {n c : Nat} {zs : List Int} (h : IB w (.slice a n c) zs) {k : Nat} (hk : k < zs.length) : ∃ b off, a = some ⟨b, off, none⟩ ∧ b < w.heap.size ∧ w.cell? ⟨b, off + k, none⟩ = some (.int .i64 (zs[k]?.getD 0)) := by
  rcases h.2 with ⟨_, _, _, hnil⟩ | ⟨b, off, cap, e, hlt, hI⟩
  · rw [hnil] at hk; simp at hk
  · simp at e
    exact ⟨b, off, e.1, hlt, hI k hk⟩
def bgd (bs : List Blk) (k : Nat) : List Int := (List.range k).map fun i => ((meetI (bs[i]?.getD default) i bs bs.length).length : Int)
theorem bgd_succ (bs : List Blk) (k : Nat) : bgd bs (k + 1) = bgd bs k ++ [((meetI (bs[k]?.getD default) k bs bs.length).length : Int)] := by simp [bgd, List.range_succ]
theorem bgd_len (bs : List Blk) (k : Nat) : (bgd bs k).length = k := by simp [bgd]
def bgdF (v : Int) (bs : List Blk) : List Int × Int := if isSysImpl v bs then (bgd bs bs.length, 0) else ([], 1)
theorem bgdF_len (v : Int) (bs : List Blk) : (bgdF v bs).1.length ≤ bs.length := by
  unfold bgdF
  split
  · rw [bgd_len]; omega
  · simp
/-- The blocks that touch both of two. -/
def comN (bs : List Blk) (i k : Nat) (t : Nat) : Nat := (((meetI (bs[i]?.getD default) i bs bs.length).take t).filter fun z => inL z (meetI (bs[k]?.getD default) k bs bs.length)).length
def comC (v : Int) (bs : List Blk) (i k : Int) : Int := if isSysImpl v bs then (if inP (bs.length : Int) i = true ∧ inP (bs.length : Int) k = true ∧ i ≠ k then 0 else 2) else 1
def comV (v : Int) (bs : List Blk) (i k : Int) : Value := .tuple #[.int .i64 (if comC v bs i k = 0 then (comN bs i.toNat k.toNat bs.length : Int) else 0), .int .i64 (comC v bs i k)]
theorem comN_succ {bs : List Blk} {i k t : Nat} (h : t < (meetI (bs[i]?.getD default) i bs bs.length).length) : comN bs i k (t + 1) = comN bs i k t + if inL ((meetI (bs[i]?.getD default) i bs bs.length)[t]?.getD 0) (meetI (bs[k]?.getD default) k bs bs.length) then 1 else 0 := by
  unfold comN
  rw [List.take_add_one, List.getElem?_eq_getElem h, List.filter_append, List.length_append]
  simp only [Option.toList_some, Option.getD_some, List.filter_cons, List.filter_nil]
  split <;> rfl
theorem comN_end {bs : List Blk} {i k t : Nat} (h : (meetI (bs[i]?.getD default) i bs bs.length).length ≤ t) : comN bs i k t = comN bs i k bs.length := by
  unfold comN
  rw [List.take_of_length_le h, List.take_of_length_le (meetI_len _ _ _ _)]
theorem comN_le (bs : List Blk) (i k t : Nat) : comN bs i k t ≤ t := by
  unfold comN
  exact Nat.le_trans (List.length_filter_le _ _) (by rw [List.length_take]; omega)
set_option maxRecDepth 100000 in
set_option maxHeartbeats 1000000 in
theorem BlockGraphDegrees_any (v : Int) (s : Value) (bs : List Blk) (w : World) (h : SB w s bs) :
    Calls Try.prog 41 #[.agg #[.int .i64 v, s]] w (RJ (bgdF v bs) w) := by
  have hs := h.slice
  have HI := Lib.hid fun W (hb : Below w.heap.size w W) => IsSystem_any v s bs W (h.below hb (Nat.le_refl _))
  have HSB := Lib.hid h
  have hlen := h.2.1
  clear h
  obtain ⟨a0, c0, rfl⟩ := hs
  cases hi : isSysImpl v bs with
  | false =>
    have HV := Lib.hid (show bgdF v bs = ([], 1) by simp [bgdF, hi])
    rw [HV.out]
    rw [hi] at HI
    clear hi HSB
    go_enter Try.func41, Try.ntmps41
    go_wp2_with fail
    refine (HI.out _ ((Below.refl _ _).alloc (Nat.le_refl _) _)).mono ?_
    rintro e w1 ⟨rfl, hb1⟩
    have hb2 := below_new hb1
    clear hb1
    go_wp2
    go_ret2
    exact ⟨_, rfl, OwnJ.nil _ _, hb2⟩
  | true =>
    have HV := Lib.hid (show bgdF v bs = (bgd bs bs.length, 0) by simp [bgdF, hi])
    rw [HV.out]
    have HM := Lib.hid fun (k : Nat) (hk : k < bs.length) W (hb : Below w.heap.size w W) => (show Calls Try.prog 75 #[.agg #[.int .i64 v, .slice a0 bs.length c0], .int .i64 (k : Int)] W (RJ (meetI (bs[k]?.getD default) k bs bs.length, 0) W) by
      have := MeetingBlocks_any v _ bs (k : Int) W (HSB.out.below hb (Nat.le_refl _))
      rw [show meetF v bs (k : Int) = (meetI (bs[k]?.getD default) k bs bs.length, 0) by simp [meetF, hi, inP, hk]] at this
      exact this)
    rw [hi] at HI
    clear hi
    have HN := Lib.hid fun W (hb : Below w.heap.size w W) => blockNumbers_any v _ bs W (HSB.out.below hb (Nat.le_refl _))
    go_enter Try.func41, Try.ntmps41
    go_wp2_with fail
    refine (HI.out _ ((Below.refl _ _).alloc (Nat.le_refl _) _)).mono ?_
    rintro e w1 ⟨rfl, hb1⟩
    have hb2 := below_new hb1
    have q0 := cell_new hb1 0 rfl
    have q1 := cell_new hb1 1 rfl
    have hl1 := block_lt_of_cell q0
    clear hb1
    go_wp2_with fail
    refine (HN.out _ hb2).mono ?_
    rintro e w2 ⟨u, rfl, hO2, hb3⟩
    have p0 := (hb3.cell (p := ⟨w.heap.size, 0, none⟩) hl1).trans q0
    have p1 := (hb3.cell (p := ⟨w.heap.size, 1, none⟩) hl1).trans q1
    have hl2 : w.heap.size < w2.heap.size := by have := hb3.size; omega
    have HB2 := Lib.hid (hb2.trans (hb3.mono hb2.size))
    obtain ⟨a1, c1, hu⟩ := hO2.slice
    rw [numL_len] at hu
    have HIB := Lib.hid (hO2.ib (by rw [numL_len]; exact hlen))
    rw [hu] at HIB
    subst hu
    clear hb2 hb3 q0 q1 hl1 hO2
    go_wp2_with fail
    go_loopw [4, 15] (fun o i wr => ∃ k : Nat, k ≤ bs.length ∧ i = .int .i64 k ∧ Below w2.heap.size w2 wr ∧ OwnJ wr w2.heap.size o (bgd bs k) ∧ ∃ a n c, o = .slice a n c) (fun _ i _ => bs.length - (intOf i).toNat)
    case atStart => exact ⟨0, Nat.zero_le _, rfl, Below.refl _ _, OwnJ.nil _ _, _, _, _, rfl⟩
    case round =>
      obtain ⟨k, hk, rfl, hB, hO, hform⟩ := hrel
      have hz := hB.size
      have r0 := (hB.cell (p := ⟨w.heap.size, 0, none⟩) hl2).trans p0
      have r1 := (hB.cell (p := ⟨w.heap.size, 1, none⟩) hl2).trans p1
      obtain ⟨a3, n3, c3, rfl⟩ := hform
      have HO := Lib.hid hO
      clear hO
      by_cases hkl : k < bs.length
      · obtain ⟨b, off, rfl, hblt, hcell⟩ := (HIB.out.below hB (Nat.le_refl _)).get (k := k) (by rw [numL_len]; exact hkl)
        rw [show (numL bs.length)[k]?.getD 0 = (k : Int) by simp [numL, hkl]] at hcell
        have HS := Lib.hid (bgd_succ bs k)
        have hln : (bgd bs k).length ≤ 1100000 := by rw [bgd_len]; omega
        have HC := Lib.hid (HM.out k hkl wr (HB2.out.trans (hB.mono HB2.out.size)))
        obtain ⟨m, hm⟩ : ∃ m, m = meetI (bs[k]?.getD default) k bs bs.length := ⟨_, rfl⟩
        have hml : m.length ≤ bs.length := by rw [hm]; exact meetI_len _ _ _ _
        rw [← hm] at HC HS
        have g0 : (0 : Int) ≤ (k : Int) := by omega
        have g1 : (k : Int) < (bs.length : Int) := by omega
        clear hm
        go_wp2_with fail
        refine HC.out.mono ?_
        rintro e w3 ⟨u3, rfl, hO3, hb4⟩
        obtain ⟨a5, c5, hu3⟩ := hO3.slice
        subst hu3
        have HO3 := Lib.hid (HO.out.below hb4 (Nat.le_refl _))
        have hz4 := hb4.size
        clear hO3
        go_wp2_with (at_builtin; refine wpList_append_int rfl _ _ rfl w2.heap.size _ (bgd bs k) rfl (HO3.out.below ((Below.refl _ _).alloc (Nat.le_refl _) _) (Nat.le_refl _)) _ _ (m.length : Int) rfl (by simp [go_sem]) hln (by simp; omega) ?_; intro g' cap' w4 hO4 hg4)
        have hrow := HO3.out.row
        have hgo : w3.grownBy w4 (Value.slice a3 n3 c3).ownBlock := gb_trans (World.grownBy_alloc _ _ none) hg4
        have hB3 := hB.trans (hb4.mono hz)
        clear hg4
        go_roundw
        case rel => exact ⟨k + 1, by omega, by go_num, hB3.grown hgo (by omega) (fun j e => hrow j e), by rw [HS.out]; exact hO4, _, _, _, rfl⟩
        case measure => simp [intOf]; omega
      · have e : k = bs.length := by omega
        subst e
        go_wp2
        go_ret2
        exact ⟨_, rfl, ownsRow_base HO.out (by omega), HB2.out.trans (hB.mono (by omega))⟩
end Go.Proofs.Ytahgialnhomefaa

namespace Go.Proofs.Ytahgialnhomefaa
open Go.RowKit Go.Maps
/-- The products: of points, and of elements of the loop. -/
def prd (κ n : Nat) (bs : List Blk) (a b : Nat) : Int :=
  if κ = 0 then (if a = b then (a : Int) else tabN bs a b) else if a = b then (n : Int) else if a = n then (b : Int) else if b = n then (a : Int) else tabN bs a b
/-- A place of a table in memory. -/
theorem SSR.get {w : World} {lo G : Nat} {gs caps : Nat → Nat} {n : Nat} {T : Nat → Nat → Int} (h : SSR w lo G gs caps n (rowT n T)) {a b : Nat} (ha : a < n) (hb : b < n) :
    w.cell? ⟨G, a, none⟩ = some (.slice (some ⟨gs a, 0, none⟩) n (caps a)) ∧ w.cell? ⟨gs a, b, none⟩ = some (.int .i64 (T a b)) := by
  have h1 := h.cell a ha
  rw [rowT_len] at h1
  refine ⟨h1, ?_⟩
  have h2 := (h.row a ha).at_ b (by rw [rowT_len]; exact hb)
  rw [rowT_at _ _ hb, Nat.zero_add] at h2
  exact h2
set_option maxRecDepth 100000 in
theorem ofPoints_any (G lo : Nat) (gs caps : Nat → Nat) (n c : Nat) (bs : List Blk) (a b : Nat) (w : World) (h : SSR w lo G gs caps n (rowT n (tabN bs))) (ha : a < n) (hb : b < n) :
    Calls Try.prog 113 #[.slice (some ⟨G, 0, none⟩) n c, .int .i64 (a : Int), .int .i64 (b : Int)] w (RS (.int .i64 (prd 0 n bs a b)) w) := by
  obtain ⟨c1, c2⟩ := h.get ha hb
  have a0 : (0 : Int) ≤ (a : Int) := by omega
  have a1 : (a : Int) < (n : Int) := by omega
  have b0 : (0 : Int) ≤ (b : Int) := by omega
  have b1 : (b : Int) < (n : Int) := by omega
  by_cases hab : a = b
  · subst hab
    have e : ((a : Int) == (a : Int)) = true := by simp
    go_enter Try.func113, Try.ntmps113
    go_wp2
    go_ret
    exact RS_of (int_eq (by simp [prd]))
  · have e : ((a : Int) == (b : Int)) = false := by simp; omega
    have HV := Lib.hid (show prd 0 n bs a b = tabN bs a b by simp [prd, hab])
    rw [HV.out]
    clear hab h HV
    go_enter Try.func113, Try.ntmps113
    go_wp2
    go_ret
    exact RS_of rfl
set_option maxRecDepth 100000 in
theorem inLoop_any (G lo : Nat) (gs caps : Nat → Nat) (n c : Nat) (bs : List Blk) (a b : Nat) (w : World) (h : SSR w lo G gs caps n (rowT n (tabN bs))) (ha : a < n + 1) (hb : b < n + 1) :
    Calls Try.prog 114 #[.slice (some ⟨G, 0, none⟩) n c, .int .i64 (a : Int), .int .i64 (b : Int)] w (RS (.int .i64 (prd 1 n bs a b)) w) := by
  by_cases hab : a = b
  · subst hab
    have e : ((a : Int) == (a : Int)) = true := by simp
    clear h
    go_enter Try.func114, Try.ntmps114
    go_wp2
    go_ret
    exact RS_of (int_eq (by simp [prd]))
  · have e : ((a : Int) == (b : Int)) = false := by simp; omega
    by_cases han : a = n
    · have e2 : ((a : Int) == (n : Int)) = true := by simp; omega
      have HV := Lib.hid (show prd 1 n bs a b = (b : Int) by simp [prd, han]; omega)
      rw [HV.out]
      clear h hab han HV
      go_enter Try.func114, Try.ntmps114
      go_wp2
      go_ret
      exact RS_of rfl
    · have e2 : ((a : Int) == (n : Int)) = false := by simp; omega
      by_cases hbn : b = n
      · have e3 : ((b : Int) == (n : Int)) = true := by simp; omega
        have HV := Lib.hid (show prd 1 n bs a b = (a : Int) by simp [prd, han, hbn])
        rw [HV.out]
        clear h hab han hbn HV
        go_enter Try.func114, Try.ntmps114
        go_wp2
        go_ret
        exact RS_of rfl
      · have e3 : ((b : Int) == (n : Int)) = false := by simp; omega
        obtain ⟨c1, c2⟩ := h.get (a := a) (b := b) (by omega) (by omega)
        have a0 : (0 : Int) ≤ (a : Int) := by omega
        have a1 : (a : Int) < (n : Int) := by omega
        have b0 : (0 : Int) ≤ (b : Int) := by omega
        have b1 : (b : Int) < (n : Int) := by omega
        have HV := Lib.hid (show prd 1 n bs a b = tabN bs a b by simp [prd, hab, han, hbn])
        rw [HV.out]
        clear h hab han hbn HV
        go_enter Try.func114, Try.ntmps114
        go_wp2
        go_ret
        exact RS_of rfl
set_option maxRecDepth 100000 in
theorem elementCount_any (κ n : Nat) (hκ : κ ≤ 1) (hn : n ≤ 15) (s : Value) (w : World) : Calls Try.prog 88 #[.agg #[.int .i64 (n : Int), s], .int .i64 (κ : Int)] w (RV (.int .i64 ((n + κ : Nat) : Int)) w) := by
  have hw : IntKind.i64.wrap ((n : Int) + (κ : Int)) = ((n + κ : Nat) : Int) := by rw [IntWalk.i64_in _ (by omega)]; omega
  have hb := (Below.refl w.heap.size w).alloc (Nat.le_refl _) (.cells #[.int .i64 (n : Int), s] 30)
  go_enter Try.func88, Try.ntmps88
  go_wp2
  go_ret
  exact RV_of rfl hb
end Go.Proofs.Ytahgialnhomefaa

namespace Go.Proofs.Ytahgialnhomefaa
open Go.RowKit Go.Maps
theorem step_append_intG {w : World} {ops : Array Oper} {o : Oper} {a : Act} {K : Act → World → Prop} {Q : Exit → Act → World → Prop} {E : Prop} (hgd : o.guard = none) (s x : Operand)
    (ho : o.op = .call { callee := .builtin .append, args := #[s, x], argTypes := #[38, 38] })
    (base : Nat) (v : Value) (zs : List Int) (hs : a.eval s = v) (hown : OwnJ w base v zs) (b0 c : Nat) (y : Int) (hx : a.eval x = .slice (some ⟨b0, 0, none⟩) 1 c) (hy : w.cell? ⟨b0, 0, none⟩ = some (.int .i64 y)) (hl : zs.length ≤ 1100000) (hb : base ≤ w.heap.size)
    (h : ∀ (g cap : Nat) (w' : World), OwnJ w' base (.slice (some ⟨g, 0, none⟩) (zs.length + 1) cap) (zs ++ [y]) → w.grownBy w' v.ownBlock → (v.ownBlock = some g ∨ g = w.heap.size) → K (a.put o.dst (.slice (some ⟨g, 0, none⟩) (zs.length + 1) cap)) w') :
    if Region.wanted o (yielded ops a.tmps) = true then Oper.wp Try.prog o a w K Q else E := by
  have hw : Region.wanted o (yielded ops a.tmps) = true := by simp [Region.wanted, hgd]
  rw [if_pos hw]
  obtain ⟨i0, hi, hz0, hz1, hz2⟩ := info_parts infoInt64
  obtain ⟨v', w', h1, h2, h3, _, h4⟩ := run_append_own_at (P := Try.prog) w base 38 o.type 2 i0 _ 1 8 Try.underlying38 hi hz0 hz1 hz2 rfl (by decide) v zs.length (zs.map (Value.int .i64)) hown ⟨b0, 0, none⟩ 1 c [.int .i64 y] rfl (fun j u hj => by
    rw [addr_at, Nat.zero_add]
    match j, hj with
    | 0, hj => simp at hj; rw [← hj]; exact hy
    | j + 1, hj => simp at hj) (fun u hu => by
    simp at hu
    rw [hu]
    rfl) (by unfold maxLen; omega) (by omega) hb
  have h2' : OwnJ w' base v' (zs ++ [y]) := by unfold OwnJ; rw [List.length_append, List.length_singleton, List.map_append, List.map_singleton]; exact h2
  have hf : ∃ g cap, v' = .slice (some ⟨g, 0, none⟩) (zs.length + 1) cap := by
    rcases h2.2 with ⟨e, e2⟩ | ⟨g, cap, _, e, _⟩
    · omega
    · exact ⟨g, cap, e⟩
  obtain ⟨g, cap, rfl⟩ := hf
  unfold Oper.wp execOp
  simp only [ho, resolve, invoke, builtin, Sem.run_bind, Sem.run_pure, Result.andThen_ok, List.map_toArray, List.map_cons, List.map_nil, hs, hx, h1]
  refine h g cap w' h2' h3 ?_
  rcases h4 with h4 | h4
  · exact .inl (by rw [← h4]; rfl)
  · exact .inr (by simpa [Value.ownBlock] using h4)
theorem OwnJ.apartP {W W' : World} {base : Nat} {v : Value} {zs : List Int} {row : Option Nat} (h : OwnJ W base v zs) (hg : W.grownBy W' row) (ap : ∀ r, row = some r → v.ownBlock ≠ some r) : OwnJ W' base v zs := World.ownsRow.kept h hg (by
  cases row with
  | none =>
    cases hv : v.ownBlock with
    | none => exact .inl rfl
    | some g => exact .inr (by simp)
  | some r => exact .inr (ap r rfl))
theorem OwnJ.at0 {w : World} {base : Nat} {u : Value} {zs : List Int} (h : OwnJ w base u zs) (h0 : 0 < zs.length) (hl : zs.length ≤ 1100000) : ∃ g cap, u = .slice (some ⟨g, 0, none⟩) zs.length cap ∧ OwnAtI w g zs ∧ base ≤ g := by
  obtain ⟨a, c, rfl⟩ := h.slice
  rcases h.2 with ⟨hv, h1⟩ | ⟨g, cap, cur, hv, hb, hcur, _⟩
  · omega
  · cases hv
    obtain ⟨i1, _, i3, _⟩ := h.ints0 hl
    exact ⟨g, _, rfl, ⟨i3, i1, fun o => by simp [World.frozen?, hcur]⟩, hb⟩
/-- The rows before a are whole, the row a has its first b numbers, the rest is nil. -/
structure TabG (W : World) (lo G n : Nat) (gs caps : Nat → Nat) (P : Nat → Nat → Int) (a b : Nat) (u : Value) : Prop where
  ssr : SSR W lo G gs caps a (rowT n P)
  own : OwnJ W lo u ((rowT n P a).take b)
  ne : u.ownBlock ≠ some G
  ap : ∀ k, k < a → u.ownBlock ≠ some (gs k)
  cell : W.cell? ⟨G, a, none⟩ = some u
  rest : ∀ q, a < q → q < n → W.cell? ⟨G, q, none⟩ = some (.slice none 0 0)
  free : ∀ o, W.frozen? ⟨G, o, none⟩ = false
variable {W W' : World} {lo G n : Nat} {gs caps : Nat → Nat} {P : Nat → Nat → Int} {a b : Nat} {u : Value}
theorem TabG.below (h : TabG W lo G n gs caps P a b u) (hb : Below W.heap.size W W') : TabG W' lo G n gs caps P a b u :=
  ⟨h.ssr.below hb (Nat.le_refl _), h.own.below hb (Nat.le_refl _), h.ne, h.ap, (hb.cell (p := ⟨G, a, none⟩) h.ssr.lt).trans h.cell, fun q h1 h2 => (hb.cell (p := ⟨G, q, none⟩) h.ssr.lt).trans (h.rest q h1 h2), fun o => (hb.frozen (p := ⟨G, o, none⟩) h.ssr.lt).trans (h.free o)⟩
theorem TabG.blk (h : TabG W lo G n gs caps P a b u) : ∀ r, u.ownBlock = some r → lo ≤ r ∧ r < W.heap.size := fun r e => by
  rcases h.own.2 with ⟨hv, _⟩ | ⟨g, cap, cur, hv, hb, hcur, _⟩
  · rw [hv] at e; simp [Value.ownBlock] at e
  · rw [hv] at e
    obtain rfl : g = r := by simpa [Value.ownBlock] using e
    exact ⟨hb, (Array.getElem?_eq_some_iff.1 hcur).1⟩
theorem TabG.step (h : TabG W lo G n gs caps P a b u) (hb : b < n) (hg : W.grownBy W' u.ownBlock) {g cap : Nat} (ho : OwnJ W' lo (.slice (some ⟨g, 0, none⟩) (((rowT n P a).take b).length + 1) cap) ((rowT n P a).take b ++ [P a b])) (hG : u.ownBlock = some g ∨ W.heap.size ≤ g) :
    TabG (W'.setCell ⟨G, a, none⟩ (.slice (some ⟨g, 0, none⟩) (((rowT n P a).take b).length + 1) cap)) lo G n gs caps P a (b + 1) (.slice (some ⟨g, 0, none⟩) (((rowT n P a).take b).length + 1) cap) := by
  have hst := only_setCell (only_refl W' (some G)) (p := ⟨G, a, none⟩) rfl (.slice (some ⟨g, 0, none⟩) (((rowT n P a).take b).length + 1) cap)
  have hl : (rowT n P a).take (b + 1) = (rowT n P a).take b ++ [P a b] := by
    rw [List.take_add_one, List.getElem?_eq_getElem (by rw [rowT_len]; exact hb)]
    have := rowT_at P a hb
    rw [List.getElem?_eq_getElem (by rw [rowT_len]; exact hb)] at this
    simp only [Option.getD_some] at this
    rw [this]; rfl
  have hne : g ≠ G := by
    rcases hG with e | e
    · intro h0; exact h.ne (h0 ▸ e)
    · have := h.ssr.lt; omega
  have hap : ∀ k, k < a → g ≠ gs k := fun k hk => by
    rcases hG with e | e
    · intro h0; exact h.ap k hk (h0 ▸ e)
    · have := (h.ssr.row k hk).lt; omega
  have hcell : W'.cell? ⟨G, a, none⟩ = some u := hg.cell h.cell (fun e => h.ne e.symm)
  have hs := h.ssr.kept hg (fun e => h.ne e.symm) (fun k hk e => h.ap k hk e.symm)
  refine ⟨⟨fun k hk => ?_, fun k hk => ?_, hs.ne, hs.inc, hs.low, by have := hs.lt; simpa [World.setCell] using this⟩, ?_, by simp [Value.ownBlock]; exact hne, fun k hk => by simp [Value.ownBlock]; exact hap k hk, World.cell?_setCell_same' _ _ _ (by rw [hcell]; rfl), fun q h1 h2 => ?_, fun o => ?_⟩
  · rw [World.cell?_setCell_other _ _ _ _ (by simp <;> omega)]; exact hs.cell k hk
  · exact (hs.row k hk).kept hst (by have := hs.ne k hk; simpa using this)
  · rw [hl]
    exact ho.apartP hst (fun r e => by cases e; simp [Value.ownBlock]; exact hne)
  · rw [World.cell?_setCell_other _ _ _ _ (by simp <;> omega)]
    exact hg.cell (h.rest q h1 h2) (fun e => h.ne e.symm)
  · rw [World.frozen?_setCell]
    exact (World.frozen?_of_block (w := W) (a := ⟨G, o, none⟩) (hg.block G h.ssr.lt (fun e => h.ne e.symm))).trans (h.free o)
/-- The row a is whole. -/
theorem TabG.full (h : TabG W lo G n gs caps P a n u) (hn : 0 < n) (hn2 : n ≤ 1000) : ∃ g cap, SSR W lo G (fun q => if q = a then g else gs q) (fun q => if q = a then cap else caps q) (a + 1) (rowT n P) := by
  have ho := h.own
  rw [List.take_of_length_le (by rw [rowT_len]; exact Nat.le_refl n)] at ho
  obtain ⟨g, cap, rfl, h1, h2⟩ := ho.at0 (by rw [rowT_len]; exact hn) (by rw [rowT_len]; omega)
  have hne : g ≠ G := fun e => h.ne (by simp [Value.ownBlock, e])
  have hap : ∀ k, k < a → g ≠ gs k := fun k hk e => h.ap k hk (by simp [Value.ownBlock, e])
  refine ⟨g, cap, fun k hk => ?_, fun k hk => ?_, fun k hk => ?_, fun j k hjk hk => ?_, fun k hk => ?_, h.ssr.lt⟩
  · by_cases e : k = a
    · subst e; simp only [if_pos]; exact h.cell
    · simp only [if_neg e]; exact h.ssr.cell k (by omega)
  · by_cases e : k = a
    · subst e; simp only [if_pos]; exact h1
    · simp only [if_neg e]; exact h.ssr.row k (by omega)
  · by_cases e : k = a
    · subst e; simp only [if_pos]; exact hne
    · simp only [if_neg e]; exact h.ssr.ne k (by omega)
  · have e1 : j ≠ a := by omega
    simp only [if_neg e1]
    by_cases e : k = a
    · subst e; simp only [if_pos]; exact (hap j hjk).symm
    · simp only [if_neg e]; exact h.ssr.inc j k hjk (by omega)
  · by_cases e : k = a
    · subst e; simp only [if_pos]; exact h2
    · simp only [if_neg e]; exact h.ssr.low k (by omega)
/-- The next row is begun. -/
theorem TabG.begin (hs : SSR W lo G gs caps a (rowT n P)) (ha : a < n) (hr : ∀ q, a ≤ q → q < n → W.cell? ⟨G, q, none⟩ = some (.slice none 0 0)) (hf : ∀ o, W.frozen? ⟨G, o, none⟩ = false) : TabG W lo G n gs caps P a 0 (.slice none 0 0) :=
  ⟨hs, by rw [List.take_zero]; exact OwnJ.nil _ _, by simp [Value.ownBlock], fun k _ => by simp [Value.ownBlock], hr a (Nat.le_refl a) ha, fun q h1 h2 => hr q (by omega) h2, hf⟩
end Go.Proofs.Ytahgialnhomefaa


/- The model's list of automorphisms. Kept points, plain, and the program's count of them. The model's numbers of automorphisms by kept points. The program's list of automorphisms. How the laws' arguments are read. How the laws' other arguments are read: slices of integers, slices of blocks, a block, rows. -/
import Derived.Test.YtoicdfdfajfopaaJ19
import Derived.Deep.RegionWith
import Derived.Deep.RegionHeld3
import Derived.Deep.Cut
import Derived.Deep.DeepCutAuto
import Derived.Maps.OwnIn
import Derived.Test.YtoicdfdfajfopaaRows
import Derived.ProofKit
import Derived.OpenShut
import Derived.Deep.Slices
import Derived.Lib.SmallJoins
import Derived.ChangeOld
namespace Go.Proofs.Ytoicdfdfajfopaa
open Go.RowKit Go.Maps
def auL (L : List (List Int)) : List (List Int) × Int := if 500 < L.length then ([], 3) else (L, 0)
def auF (v : Int) (bs : List Blk) : List (List Int) × Int := if fullC v bs = 0 then auL (autL v.toNat bs) else ([], fullC v bs)
theorem auL_len (L : List (List Int)) : (auL L).1.length ≤ 500 := by
  unfold auL
  split
  · simp
  · show L.length ≤ 500
    omega
theorem auF_len (v : Int) (bs : List Blk) : (auF v bs).1.length ≤ 500 := by
  unfold auF
  split
  · exact auL_len _
  · simp
theorem tot_const {L : List (List Int)} {n : Nat} (h : ∀ z ∈ L, z.length = n) : ∀ k, k ≤ L.length → tot (rowsF L) k = k * n
  | 0, _ => by simp [tot]
  | k + 1, hk => by
    have ih := tot_const h k (by omega)
    have e : tot (rowsF L) (k + 1) = tot (rowsF L) k + (rowsF L k).length := rfl
    rw [e, ih]
    have : (rowsF L k).length = n := by
      unfold rowsF
      rw [List.getElem?_eq_getElem (by omega : k < L.length)]
      exact h _ (List.getElem_mem _)
    rw [this, Nat.succ_mul]
theorem auF_tot (v : Int) (bs : List Blk) : tot (rowsF (auF v bs).1) (auF v bs).1.length ≤ 1000000 := by
  unfold auF
  split
  · rename_i hc
    obtain ⟨hi, hf⟩ := fullC_ok hc
    obtain ⟨n, rfl⟩ : ∃ n : Nat, v = (n : Int) := ⟨v.toNat, by have := (sys_size hi).1; omega⟩
    have hn15 := (sys_size hi).2.1
    rw [Int.toNat_natCast]
    unfold auL
    split
    · simp [tot]
    · rename_i hl
      have ht := tot_const (L := autL n bs) (n := n) (fun z hz => isoL_rowlen (thdS hi hf) (thdS hi hf) hz) (autL n bs).length (Nat.le_refl _)
      show tot (rowsF (autL n bs)) (autL n bs).length ≤ 1000000
      rw [ht]
      have : (autL n bs).length * n ≤ 500 * 15 := Nat.mul_le_mul (by omega) (by omega)
      omega
  · simp [tot]
theorem goS_some {n : Nat} {bs : List Blk} {most : Nat} (hm : 0 < most) : (goS n (T3 bs) (T3 bs) (fun _ => true) most n [] []).map castN = (autL n bs).take most := by
  rw [goS_spec n [] [] (by simpa using hm), List.nil_append, List.filter_eq_self.2 (fun _ _ => rfl), autL, List.map_take]
/-- A table of rows as a result. -/
theorem TabL.rss {W : World} {lo : Nat} {u : Value} {us : List Value} {Rs : List (List Int)} (h : TabL W lo u us Rs) (hf : ∃ a c, u = .slice a Rs.length c) (hr : ∀ z ∈ Rs, 0 < z.length ∧ z.length ≤ 1100000) : ResSS W lo u Rs.length (rowsF Rs) := by
  by_cases h0 : Rs.length = 0
  · obtain ⟨a, c, rfl⟩ := hf
    rw [h0]
    exact .inl ⟨rfl, a, c, rfl⟩
  · obtain ⟨G, c, gs, caps, e1, e2, e3⟩ := h.ssr (by omega) (fun k hk => by rw [List.getElem?_eq_getElem hk]; exact hr _ (List.getElem_mem _))
    exact .inr ⟨G, c, gs, caps, e1, e2, e3⟩
theorem rss_nil (W : World) (lo : Nat) : ResSS W lo (.slice none 0 0) ([] : List (List Int)).length (rowsF []) := .inl ⟨rfl, none, 0, rfl⟩
set_option maxRecDepth 100000 in
set_option maxHeartbeats 4000000 in
theorem specAtm_main (n : Nat) (s : Value) (bs : List Blk) (w : World) (h : SB w s bs) (hi : isSysImpl (n : Int) bs = true) (hf : fullB (n : Int) bs = true) : Calls Try.prog 31 #[.agg #[.int .i64 (n : Int), s]] w (RRows (auL (autL n bs)) w) := by
  have hn3 := (sys_size hi).1
  have hn15 := (sys_size hi).2.1
  have hfc := fun (B : Nat) W (hb : Below w.heap.size w W) c0 c1 => l06Code_one B (n : Int) s bs W (h.below hb (Nat.le_refl _)) c0 c1
  rw [show fullC (n : Int) bs = 0 by simp [fullC, hi, hf]] at hfc
  have hbt := fun W (hb : Below w.heap.size w W) => l06Between_any n 501 s s bs bs false (fun _ => true) W (h.below hb (Nat.le_refl _)) (h.below hb (Nat.le_refl _)) hi hf hi hf (by omega) (by omega) (.inl ⟨rfl, fun _ => rfl⟩)
  have hgl : (goS n (T3 bs) (T3 bs) (fun _ => true) 501 n [] []).length = ((autL n bs).take 501).length := by rw [← goS_some (by omega), List.length_map]
  rw [goS_some (by omega), hgl] at hbt
  have HBT := Lib.hid hbt
  have hrl : ∀ z ∈ autL n bs, z.length = n := fun z hz => isoL_rowlen (thdS hi hf) (thdS hi hf) hz
  obtain ⟨a0, c0, rfl⟩ := h.slice
  have hb0 : Below w.heap.size w ((w.alloc (.cells #[.int .i64 (n : Int), .slice a0 bs.length c0] 31)).alloc (.cells #[.int .i64 (n : Int), .slice a0 bs.length c0] 31)) := ((Below.refl _ _).alloc (Nat.le_refl _) _).alloc (by simp) _
  have HFI := Lib.hid (hfc (w.heap.size + 1) _ hb0 (by simp [go_sem]) (by simp [go_sem]))
  clear hfc h hi hf hbt hgl
  generalize autL n bs = L at HBT hrl
  by_cases hlen : 500 < L.length
  · rw [show auL L = ([], 3) by simp [auL, hlen]]
    have htl : (L.take 501).length = 501 := by rw [List.length_take]; omega
    rw [htl] at HBT
    clear hrl hlen htl
    go_enter Try.func31, Try.ntmps31
    go_wp2_with fail
    refine HFI.out.mono ?_
    rintro e w2 ⟨rfl, hb2⟩
    have q0 := (hb2.cell (p := ⟨w.heap.size, 0, none⟩) (by simp <;> omega)).trans (by simp [go_sem] : _ = some (Value.int .i64 (n : Int)))
    have q1 := (hb2.cell (p := ⟨w.heap.size, 1, none⟩) (by simp <;> omega)).trans (by simp [go_sem] : _ = some (Value.slice a0 bs.length c0))
    have hB2 := hb0.trans (hb2.mono (by simp <;> omega))
    clear hb2 HFI hb0
    go_wp2_with fail
    refine (HBT.out _ hB2).mono ?_
    rintro e w3 ⟨u, us, rfl, hT, hu, hb3⟩
    obtain ⟨a5, c5, rfl⟩ := hu
    have hB3 := hB2.trans (hb3.mono hB2.size)
    clear hT hb3 HBT
    go_wp2
    go_ret2
    exact ⟨_, rfl, rss_nil _ _, hB3⟩
  · rw [show auL L = (L, 0) by simp [auL, hlen]]
    have htl : L.take 501 = L := List.take_of_length_le (by omega)
    rw [htl] at HBT
    have hll : L.length ≤ 500 := by omega
    have HRL := Lib.hid hrl
    clear hrl hlen htl
    go_enter Try.func31, Try.ntmps31
    go_wp2_with fail
    refine HFI.out.mono ?_
    rintro e w2 ⟨rfl, hb2⟩
    have q0 := (hb2.cell (p := ⟨w.heap.size, 0, none⟩) (by simp <;> omega)).trans (by simp [go_sem] : _ = some (Value.int .i64 (n : Int)))
    have q1 := (hb2.cell (p := ⟨w.heap.size, 1, none⟩) (by simp <;> omega)).trans (by simp [go_sem] : _ = some (Value.slice a0 bs.length c0))
    have hB2 := hb0.trans (hb2.mono (by simp <;> omega))
    clear hb2 HFI hb0
    go_wp2_with fail
    refine (HBT.out _ hB2).mono ?_
    rintro e w3 ⟨u, us, rfl, hT, hu, hb3⟩
    have HR := Lib.hid ((hT.base hB2.size).rss hu (fun z hz => by rw [HRL.out z hz]; omega))
    obtain ⟨a5, c5, rfl⟩ := hu
    have hB3 := hB2.trans (hb3.mono hB2.size)
    clear hT hb3 HBT
    go_wp2
    go_ret2
    exact ⟨_, rfl, HR.out, hB3⟩
set_option maxRecDepth 100000 in
theorem specAtm_any (v : Int) (s : Value) (bs : List Blk) (w : World) (h : SB w s bs) : Calls Try.prog 31 #[.agg #[.int .i64 v, s]] w (RRows (auF v bs) w) := by
  by_cases hc : fullC v bs = 0
  · obtain ⟨hi, hf⟩ := fullC_ok hc
    obtain ⟨n, rfl⟩ : ∃ n : Nat, v = (n : Int) := ⟨v.toNat, by have := (sys_size hi).1; omega⟩
    have := specAtm_main n s bs w h hi hf
    unfold auF
    rw [if_pos hc, Int.toNat_natCast]
    exact this
  · have HV := Lib.hid (show auF v bs = ([], fullC v bs) by simp [auF, hc])
    rw [HV.out]
    have HFC := Lib.hid fun (B : Nat) W (hb : Below w.heap.size w W) c0 c1 => l06Code_one B v s bs W (h.below hb (Nat.le_refl _)) c0 c1
    have hb0 : Below w.heap.size w ((w.alloc (.cells #[.int .i64 v, s] 31)).alloc (.cells #[.int .i64 v, s] 31)) := ((Below.refl _ _).alloc (Nat.le_refl _) _).alloc (by simp) _
    obtain ⟨k, hk⟩ : ∃ k, k = fullC v bs := ⟨_, rfl⟩
    rw [← hk] at HFC hc ⊢
    have hk0 : (k == 0) = false := by simpa using hc
    have hk1 : (k != 0) = true := by simpa using hc
    obtain ⟨a0, c0, rfl⟩ := h.slice
    clear h hk
    have HFI := Lib.hid (HFC.out (w.heap.size + 1) _ hb0 (by simp [go_sem]) (by simp [go_sem]))
    go_enter Try.func31, Try.ntmps31
    go_wp2_with fail
    refine HFI.out.mono ?_
    rintro e w1 ⟨rfl, hb1⟩
    have hbw := hb0.trans (hb1.mono (by simp <;> omega))
    clear hb1 HFI
    go_wp2
    go_ret2
    exact ⟨_, rfl, rss_nil _ _, hbw⟩
end Go.Proofs.Ytoicdfdfajfopaa

namespace Go.Proofs.Ytoicdfdfajfopaa
open Go.RowKit Go.Maps
/-- How many of the first k places hold themselves. -/
def keptK (z : List Int) (k : Nat) : Nat := (List.range k).countP fun (a : Nat) => z[a]?.getD 0 == (a : Int)
def keptN (z : List Int) : Nat := keptK z z.length
theorem keptK_succ (z : List Int) (k : Nat) : keptK z (k + 1) = keptK z k + if z[k]?.getD 0 == (k : Int) then 1 else 0 := by
  unfold keptK
  rw [List.range_succ, List.countP_append, List.countP_singleton]
theorem keptK_le (z : List Int) (k : Nat) : keptK z k ≤ k := Nat.le_trans List.countP_le_length (by simp)
/-- By kept points, from 0 to n. -/
def kpR (L : List (List Int)) (n : Nat) : List Int := (List.range (n + 1)).map fun k => ((L.countP fun z => keptN z == k : Nat) : Int)
theorem kpR_len (L : List (List Int)) (n : Nat) : (kpR L n).length = n + 1 := by simp [kpR]
theorem kpR_nil (n : Nat) : kpR [] n = List.replicate (n + 1) 0 := by
  apply List.ext_getElem
  · simp [kpR]
  · intro i h1 h2
    simp [kpR]
theorem kpR_at (L : List (List Int)) {n k : Nat} (h : k ≤ n) : (kpR L n)[k]?.getD 0 = ((L.countP fun z => keptN z == k : Nat) : Int) := by
  simp [kpR, show k < n + 1 by omega]
theorem kpR_snoc (L : List (List Int)) (z : List Int) {n : Nat} (_h : keptN z ≤ n) : kpR (L ++ [z]) n = (kpR L n).set (keptN z) (((L.countP fun y => keptN y == keptN z : Nat) : Int) + 1) := by
  apply List.ext_getElem
  · simp [kpR]
  · intro i h1 h2
    rw [List.getElem_set]
    by_cases e : keptN z = i
    · subst e
      simp [kpR, List.countP_append]
    · have : (keptN z == i) = false := by simpa using e
      simp [kpR, List.countP_append, e]
theorem kpR_small (L : List (List Int)) (k : Nat) : (L.countP fun z => keptN z == k) ≤ L.length := List.countP_le_length
set_option maxRecDepth 100000 in
set_option maxHeartbeats 2000000 in
theorem countKept_any (b cap : Nat) (zs : List Int) (w : World) (h : Ints w b 0 zs) (hl : zs.length ≤ 1000) : Calls Try.prog 79 #[.slice (some ⟨b, 0, none⟩) zs.length cap] w (RS (.int .i64 (keptN zs : Int)) w) := by
  have H := Lib.hid h
  have HO := Lib.hid oneIf_any
  clear h
  obtain ⟨r0, hr0⟩ : ∃ r0, r0 = keptN zs := ⟨_, rfl⟩
  rw [← hr0]
  have HR := Lib.hid hr0
  clear hr0
  go_enter Try.func79, Try.ntmps79
  go_wp2
  go_loop [3, 8] (fun c i => ∃ k : Nat, k ≤ zs.length ∧ i = .int .i64 k ∧ c = .int .i64 (keptK zs k : Int)) (fun c i => zs.length - (intOf i).toNat)
  case atStart => exact ⟨0, Nat.zero_le _, rfl, rfl⟩
  case round =>
    obtain ⟨k, hk, rfl, rfl⟩ := hrel
    by_cases hlt : k < zs.length
    · have z1 := H.out k hlt
      rw [Nat.zero_add] at z1
      have HS := keptK_succ zs k
      obtain ⟨z, hz⟩ : ∃ z, z = zs[k]?.getD 0 := ⟨_, rfl⟩
      rw [← hz] at z1 HS
      have hkl := keptK_le zs k
      obtain ⟨m, hm⟩ : ∃ m, m = keptK zs k := ⟨_, rfl⟩
      rw [← hm] at HS hkl ⊢
      have HS := Lib.hid HS
      clear hz hm
      by_cases hzq : z = (k : Int)
      · subst hzq
        have hzb : ((k : Int) == (k : Int)) = true := by simp
        have hsn : keptK zs (k + 1) = m + 1 := by rw [HS.out]; simp
        have HO1 := Lib.hid fun W => HO.out true W
        go_wp2_with (go_at_call 78; refine (HO1.out _).mono ?_; rintro e w1 ⟨rfl, rfl⟩)
        go_round
        case rel => exact ⟨k + 1, hlt, by go_num, by first | (rw [hsn]; go_num) | rw [hsn]⟩
        case measure => simp [intOf]; omega
      · have hzb : ((k : Int) == z) = false := by rw [beq_eq_false_iff_ne]; omega
        have hzb2 : (z == (k : Int)) = false := by rw [beq_eq_false_iff_ne]; omega
        have hsn : keptK zs (k + 1) = m := by rw [HS.out, hzb2]; simp
        have HO1 := Lib.hid fun W => HO.out false W
        go_wp2_with (go_at_call 78; refine (HO1.out _).mono ?_; rintro e w1 ⟨rfl, rfl⟩)
        go_round
        case rel => exact ⟨k + 1, hlt, by go_num, by first | (rw [hsn]; go_num) | rw [hsn]⟩
        case measure => simp [intOf]; omega
    · obtain rfl : k = zs.length := by omega
      rw [show keptK zs zs.length = r0 from HR.out.symm]
      go_wp2
      go_ret
      exact RS_of rfl
end Go.Proofs.Ytoicdfdfajfopaa

namespace Go.Proofs.Ytoicdfdfajfopaa
open Go.RowKit Go.Maps
/-- By kept points, with the code. -/
def kpF (v : Int) (bs : List Blk) : List Int × Int := if fullC v bs = 0 then (kpR (autL v.toNat bs) v.toNat, 0) else ([], fullC v bs)
theorem kpF_len (v : Int) (bs : List Blk) : (kpF v bs).1.length ≤ 16 := by
  unfold kpF
  split
  · rename_i hc
    have := (sys_size (fullC_ok hc).1).2.1
    rw [kpR_len]
    omega
  · simp
def KB (w : World) (n : Nat) (L : List (List Int)) (t o : Value) (wx : World) : Prop :=
  ∃ us Go, o = .slice (some ⟨Go, 0, none⟩) (n + 1) (n + 1) ∧ TabL wx w.heap.size t us L ∧ (∃ a c, t = .slice a L.length c) ∧ OwnJ wx w.heap.size (.slice (some ⟨Go, 0, none⟩) (n + 1) (n + 1)) (kpR [] n) ∧ (∀ r, t.ownBlock = some r → r ≠ Go) ∧ (∀ x ∈ us, ∀ r, x.ownBlock = some r → r ≠ Go) ∧ Below w.heap.size w wx
theorem TabL.rowP {W : World} {lo : Nat} {u : Value} {us : List Value} {Rs : List (List Int)} (h : TabL W lo u us Rs) : ∀ x ∈ us, ∀ r, x.ownBlock = some r → lo ≤ r ∧ r < W.heap.size := fun x hx r e => by
  obtain ⟨k, hk⟩ := List.getElem?_of_mem hx
  exact (h.row k x hk).blkP r e
theorem KB.after {w w3 w4 : World} {n : Nat} {L : List (List Int)} {u : Value} {us : List Value} (hn : n ≤ 15) (hT : TabL w4 w3.heap.size u us L) (hu : ∃ a c, u = .slice a L.length c) (hb4 : Below w3.heap.size w3 w4) (hb3 : Below w.heap.size w w3) :
    KB w n L u (.slice (some ⟨w4.heap.size, 0, none⟩) (n + 1) (n + 1)) (w4.alloc (.cells (madeCells #[.int .i64 0] (n + 1)) 2)) := by
  have hz := hb3.size
  refine ⟨us, w4.heap.size, rfl, (hT.below ((Below.refl _ _).alloc (Nat.le_refl _) _)).base hz, hu, ?_, fun r e => ?_, fun x hx r e => ?_, (hb3.trans (hb4.mono hz)).alloc (Nat.le_trans hz hb4.size) _⟩
  · rw [kpR_nil]
    exact OwnJ.made0 w4 (n + 1) (by omega) (Nat.le_trans hz hb4.size)
  · have := (hT.own.blkP r e).2
    omega
  · have := (hT.rowP x hx r e).2
    omega
theorem KB.before {w w2 w3 w4 : World} {n : Nat} {L : List (List Int)} {u : Value} {us : List Value} (hn : n ≤ 15) (h3 : w3.heap = (w2.alloc (.cells (madeCells #[.int .i64 0] (n + 1)) 2)).heap) (hT : TabL w4 w3.heap.size u us L) (hu : ∃ a c, u = .slice a L.length c) (hb4 : Below w3.heap.size w3 w4) (hb3 : Below w.heap.size w w3) (hz : w.heap.size ≤ w2.heap.size) :
    KB w n L u (.slice (some ⟨w2.heap.size, 0, none⟩) (n + 1) (n + 1)) w4 := by
  have hz3 : w3.heap.size = w2.heap.size + 1 := by rw [h3]; simp
  refine ⟨us, w2.heap.size, rfl, hT.base (by omega), hu, ?_, fun r e => ?_, fun x hx r e => ?_, hb3.trans (hb4.mono hb3.size)⟩
  · rw [kpR_nil]
    have := OwnJ.made0 w2 (n + 1) (by omega) (Nat.le_refl _)
    have h' : OwnJ w3 w2.heap.size (.slice (some ⟨w2.heap.size, 0, none⟩) (n + 1) (n + 1)) (List.replicate (n + 1) 0) := by
      unfold OwnJ World.ownsRow at this ⊢
      rw [h3]
      exact this
    exact OwnJ.baseP (h'.below hb4 (Nat.le_refl _)) hz
  · have := (hT.own.blkP r e).1
    omega
  · have := (hT.rowP x hx r e).1
    omega
theorem KB.drew {w wx : World} {n : Nat} {L : List (List Int)} {t o : Value} (h : KB w n L t o wx) : KB w n L t o wx.drew := by
  obtain ⟨us, Go, h1, h2, h3, h4, h5, h6, h7⟩ := h
  exact ⟨us, Go, h1, h2.below ((Below.refl _ _).drew), h3, h4, h5, h6, h7.drew⟩
set_option maxRecDepth 100000 in
set_option maxHeartbeats 4000000 in
theorem specKep_main (n : Nat) (s : Value) (bs : List Blk) (w : World) (h : SB w s bs) (hi : isSysImpl (n : Int) bs = true) (hf : fullB (n : Int) bs = true) : Calls Try.prog 42 #[.agg #[.int .i64 (n : Int), s]] w (RJ (kpR (autL n bs) n, 0) w) := by
  have h3 := (sys_size hi).1
  have h15 := (sys_size hi).2.1
  have hfc := fun (B : Nat) W (hb : Below w.heap.size w W) c0 c1 => l06Code_one B (n : Int) s bs W (h.below hb (Nat.le_refl _)) c0 c1
  rw [show fullC (n : Int) bs = 0 by simp [fullC, hi, hf]] at hfc
  have HA := Lib.hid fun W (hb : Below w.heap.size w W) => l06All_any n s bs W (h.below hb (Nat.le_refl _)) hi hf
  have hrow : ∀ z ∈ autL n bs, z.length = n := fun z hz => isoL_rowlen (thdS hi hf) (thdS hi hf) hz
  have hLle : (autL n bs).length ≤ 50625 := isoL_len (thdS hi hf) (thdS hi hf) (by omega) (by omega)
  obtain ⟨L, hL⟩ : ∃ L, L = autL n bs := ⟨_, rfl⟩
  rw [← hL] at HA hrow hLle ⊢
  have HR := Lib.hid hrow
  have hmk := mkRowD (n + 1) (by omega)
  rw [show ((n + 1 : Nat) : Int) = (n : Int) + 1 by omega] at hmk
  obtain ⟨a0, c0, rfl⟩ := h.slice
  have hb0 : Below w.heap.size w ((w.alloc (.cells #[.int .i64 (n : Int), .slice a0 bs.length c0] 31)).alloc (.cells #[.int .i64 (n : Int), .slice a0 bs.length c0] 31)) := ((Below.refl _ _).alloc (Nat.le_refl _) _).alloc (by simp) _
  have HFI := Lib.hid (hfc (w.heap.size + 1) _ hb0 (by simp [go_sem]) (by simp [go_sem]))
  clear hfc h hi hf hL hrow
  go_enter Try.func42, Try.ntmps42
  go_wp2_with fail
  refine HFI.out.mono ?_
  rintro e w2 ⟨rfl, hb2⟩
  have q0 := (hb2.cell (p := ⟨w.heap.size, 0, none⟩) (by simp <;> omega)).trans (by simp [go_sem] : _ = some (Value.int .i64 (n : Int)))
  have q1 := (hb2.cell (p := ⟨w.heap.size, 1, none⟩) (by simp <;> omega)).trans (by simp [go_sem] : _ = some (Value.slice a0 bs.length c0))
  have hlt2 : w.heap.size < w2.heap.size := by have := hb2.size; simp at this; omega
  have hB2 := hb0.trans (hb2.mono (by simp <;> omega))
  have HB2 := Lib.hid hB2
  clear hb2 HFI hb0 hB2
  have hwr : IntKind.i64.wrap ((n : Int) + 1) = (n : Int) + 1 := IntWalk.i64_in _ (by omega)
  go_upto_region 4 with fail
  go_cut [5, 6] (fun t o wx => KB w n L t o wx)
  case first =>
    have q0a := (((Below.refl w2.heap.size w2).alloc (Nat.le_refl _) (.cells (madeCells #[.int .i64 0] (n + 1)) 2)).cell (p := ⟨w.heap.size, 0, none⟩) hlt2).trans q0
    have q1a := (((Below.refl w2.heap.size w2).alloc (Nat.le_refl _) (.cells (madeCells #[.int .i64 0] (n + 1)) 2)).cell (p := ⟨w.heap.size, 1, none⟩) hlt2).trans q1
    go_region_held3 (fun w' => w'.cell? ⟨w.heap.size, 0, none⟩ = some (.int .i64 (n : Int)) ∧ w'.cell? ⟨w.heap.size, 1, none⟩ = some (.slice a0 bs.length c0))
      (first | exact ⟨by assumption, by assumption⟩ | go_keep)
      (first
        | (go_at_call 69; refine (HA.out _ (by first | exact HB2.out | exact HB2.out.drew | exact HB2.out.alloc HB2.out.size _ | exact HB2.out.drew.alloc HB2.out.size _)).mono ?_; rintro e w4 ⟨u, us, rfl, hT4, hu4, hle, hb4⟩; obtain ⟨a5, c5, hu5⟩ := id hu4; subst hu5; have HT4 := Lib.hid hT4; have HU4 := Lib.hid hu4; have HB4 := Lib.hid hb4; have f0 := (show w4.cell? ⟨w.heap.size, 0, none⟩ = some (.int .i64 (n : Int)) from (hb4.cell (p := ⟨w.heap.size, 0, none⟩) (by first | exact hlt2 | (simp; omega))).trans (by first | exact q0 | exact q0a)); have f1 := (show w4.cell? ⟨w.heap.size, 1, none⟩ = some (.slice a0 bs.length c0) from (hb4.cell (p := ⟨w.heap.size, 1, none⟩) (by first | exact hlt2 | (simp; omega))).trans (by first | exact q1 | exact q1a)); clear hT4 hu4 hb4))
    all_goals
      go_wp2_with fail
      go_meet
      first
        | exact KB.after (by omega) HT4.out HU4.out HB4.out (by first | exact HB2.out | exact HB2.out.drew)
        | exact (KB.after (by omega) HT4.out HU4.out HB4.out (by first | exact HB2.out | exact HB2.out.drew)).drew
        | exact KB.before (by omega) (by rfl) HT4.out HU4.out HB4.out (by first | exact HB2.out.alloc HB2.out.size _ | exact (HB2.out.alloc HB2.out.size _).drew | exact HB2.out.drew.alloc HB2.out.size _) HB2.out.size
        | exact (KB.before (by omega) (by rfl) HT4.out HU4.out HB4.out (by first | exact HB2.out.alloc HB2.out.size _ | exact (HB2.out.alloc HB2.out.size _).drew | exact HB2.out.drew.alloc HB2.out.size _) HB2.out.size).drew
  case rest =>
    obtain ⟨us, Go, rfl, hT, hu, hO, hne1, hne2, hB⟩ := hcut
    have HTT := Lib.hid hT
    have HN1 := Lib.hid hne1
    have HN2 := Lib.hid hne2
    obtain ⟨a5, c5, rfl⟩ := hu
    have hg0 := hO.atR (i := 0) (by rw [kpR_len]; omega)
    have hgo1 := hg0.2.1
    have hgo2 := hg0.2.2.1
    have HBC := Lib.hid hB
    obtain ⟨w5, hw5⟩ : ∃ w5, w5 = wc := ⟨_, rfl⟩
    rw [← hw5] at HTT HBC hgo2 hO ⊢
    have HO5 := Lib.hid hO
    clear hw5 hT hne1 hne2 hB hO hg0 HB2 HA q0 q1 hmk hwr
    go_wp2
    go_loopw [7] (fun i wr => ∃ k : Nat, k ≤ L.length ∧ i = .int .i64 k ∧ w5.grownBy wr (some Go) ∧ OwnJ wr w.heap.size (.slice (some ⟨Go, 0, none⟩) (n + 1) (n + 1)) (kpR (L.take k) n)) (fun i _ => L.length - (intOf i).toNat)
    case atStart => exact ⟨0, Nat.zero_le _, rfl, only_refl _ _, HO5.out⟩
    case round =>
      obtain ⟨k, hk, rfl, hgr, hO⟩ := hrel
      clear HO5
      by_cases hlt : k < L.length
      · have hzl : (L[k]?.getD []).length = n := by rw [List.getElem?_eq_getElem hlt]; exact HR.out _ (List.getElem_mem _)
        obtain ⟨G, c, g, cap, hu, e2, e3, e4, e5, e6, e7⟩ := HTT.out.at_ hlt (by rw [hzl]; omega) (by rw [hzl]; omega)
        obtain ⟨rfl, rfl⟩ : a5 = some ⟨G, 0, none⟩ ∧ c5 = c := by simpa using hu
        have hG : G ≠ Go := HN1.out G rfl
        have hg : g ≠ Go := HN2.out _ (List.mem_of_getElem? e5) g rfl
        rw [hzl] at e3
        have htake : kpR (L.take (k + 1)) n = kpR (L.take k ++ [L[k]?.getD []]) n := by rw [List.take_add_one, List.getElem?_eq_getElem hlt, Option.toList_some, Option.getD_some]
        have hcs : ∀ j, ((L.take k).countP fun y => keptN y == j) ≤ 60000 := fun j => Nat.le_trans (kpR_small _ _) (by rw [List.length_take]; omega)
        obtain ⟨z, hz⟩ : ∃ z, z = L[k]?.getD [] := ⟨_, rfl⟩
        rw [← hz] at hzl e6 htake
        have z0 := hgr.cell e3 (fun e => hG (by cases e; rfl))
        have HZ := Lib.hid fun (a : Nat) (ha : a < n) => (show wr.cell? ⟨g, a, none⟩ = some (.int .i64 (z[a]?.getD 0)) from by
          have := hgr.cell (e6.at_ a (by rw [hzl]; exact ha)) (fun e => hg (by cases e; rfl))
          rw [Nat.zero_add] at this
          exact this)
        have hkn : keptN z ≤ n := Nat.le_trans (keptK_le z z.length) (Nat.le_of_eq hzl)
        have HSN := Lib.hid (htake.trans (kpR_snoc (L.take k) z hkn))
        have hat := kpR_at (L.take k) hkn
        have hcs := hcs (keptN z)
        have hkz : keptK z n = keptN z := by rw [keptN, hzl]
        have HKZ := Lib.hid hkz
        obtain ⟨kk, hkk⟩ : ∃ kk, kk = keptN z := ⟨_, rfl⟩
        rw [← hkk] at hkn hat hcs HSN HKZ
        obtain ⟨cc, hcc⟩ : ∃ cc, cc = ((L.take k).countP fun y => keptN y == kk) := ⟨_, rfl⟩
        rw [← hcc] at hat hcs HSN
        obtain ⟨y1, y2, y3, y4, y5⟩ := hO.atR (i := kk) (by rw [kpR_len]; omega)
        rw [hat] at y1
        have hset := hO.setR (i := kk) (x := (cc : Int) + 1) (by rw [kpR_len]; omega)
        rw [← HSN.out] at hset
        have HF := Lib.hid (And.intro (hgr.trans hset.2) hset.1)
        clear e2 e3 e4 e5 e6 e7 hu htake hkz hkk hcc hat hset hO hgr hz hzl HSN y2 y4
        go_wp2
        go_loop [8, 9] (fun c j => ∃ a : Nat, a ≤ n ∧ j = .int .i64 a ∧ c = .int .i64 (keptK z a : Int)) (fun c j => n - (intOf j).toNat)
        case atStart => exact ⟨0, Nat.zero_le _, rfl, rfl⟩
        case round =>
          obtain ⟨a, ha, rfl, rfl⟩ := hrel
          by_cases han : a < n
          · have z1 := HZ.out a han
            have HS := keptK_succ z a
            have hkl := keptK_le z a
            obtain ⟨x, hx⟩ : ∃ x, x = z[a]?.getD 0 := ⟨_, rfl⟩
            rw [← hx] at z1 HS
            obtain ⟨m, hm⟩ : ∃ m, m = keptK z a := ⟨_, rfl⟩
            rw [← hm] at HS hkl ⊢
            have HS := Lib.hid HS
            clear hx hm
            by_cases hxa : x = (a : Int)
            · subst hxa
              have hsn : keptK z (a + 1) = m + 1 := by rw [HS.out]; simp
              go_wp2
              go_round
              case rel => exact ⟨a + 1, han, by go_num, by first | (rw [hsn]; go_num) | rw [hsn]⟩
              case measure => simp [intOf]; omega
            · have hxb : (x == (a : Int)) = false := by rw [beq_eq_false_iff_ne]; omega
              have hsn : keptK z (a + 1) = m := by rw [HS.out, hxb]; simp
              go_wp2
              go_round
              case rel => exact ⟨a + 1, han, by go_num, by first | (rw [hsn]; go_num) | rw [hsn]⟩
              case measure => simp [intOf]; omega
          · obtain rfl : a = n := by omega
            rw [HKZ.out]
            go_wp2
            go_roundw
            case rel => exact ⟨k + 1, hlt, by go_num, HF.out.1, HF.out.2⟩
            case measure => simp [intOf]; omega
      · obtain rfl : k = L.length := by omega
        rw [List.take_length] at hO
        have HOZ := Lib.hid hO
        have HBZ := Lib.hid (HBC.out.grown hgr HBC.out.size (fun r e => by cases e; exact hgo1))
        clear hgr hO
        go_wp2
        go_ret2
        exact ⟨_, rfl, HOZ.out, HBZ.out⟩
set_option maxRecDepth 100000 in
theorem specKep_any (v : Int) (s : Value) (bs : List Blk) (w : World) (h : SB w s bs) : Calls Try.prog 42 #[.agg #[.int .i64 v, s]] w (RJ (kpF v bs) w) := by
  by_cases hc : fullC v bs = 0
  · obtain ⟨hi, hf⟩ := fullC_ok hc
    obtain ⟨n, rfl⟩ : ∃ n : Nat, v = (n : Int) := ⟨v.toNat, by have := (sys_size hi).1; omega⟩
    have := specKep_main n s bs w h hi hf
    unfold kpF
    rw [if_pos hc, Int.toNat_natCast]
    exact this
  · have HV := Lib.hid (show kpF v bs = ([], fullC v bs) by simp [kpF, hc])
    rw [HV.out]
    have HFC := Lib.hid fun (B : Nat) W (hb : Below w.heap.size w W) c0 c1 => l06Code_one B v s bs W (h.below hb (Nat.le_refl _)) c0 c1
    have hb0 : Below w.heap.size w ((w.alloc (.cells #[.int .i64 v, s] 31)).alloc (.cells #[.int .i64 v, s] 31)) := ((Below.refl _ _).alloc (Nat.le_refl _) _).alloc (by simp) _
    obtain ⟨k, hk⟩ : ∃ k, k = fullC v bs := ⟨_, rfl⟩
    rw [← hk] at HFC hc ⊢
    have hk0 : (k == 0) = false := by simpa using hc
    have hk1 : (k != 0) = true := by simpa using hc
    obtain ⟨a0, c0, rfl⟩ := h.slice
    clear h hk
    have HFI := Lib.hid (HFC.out (w.heap.size + 1) _ hb0 (by simp [go_sem]) (by simp [go_sem]))
    go_enter Try.func42, Try.ntmps42
    go_wp2_with fail
    refine HFI.out.mono ?_
    rintro e w1 ⟨rfl, hb1⟩
    have hbw := hb0.trans (hb1.mono (by simp <;> omega))
    clear hb1 HFI
    go_wp2
    go_ret2
    exact ⟨_, rfl, OwnJ.nil _ _, hbw⟩
end Go.Proofs.Ytoicdfdfajfopaa

namespace Go.Proofs.Ytoicdfdfajfopaa
open Go.RowKit Go.Maps Go.Shelf
attribute [local go_sem] Oper.semAt_some
theorem RenD.seqD {W : World} {lo n Bi Bt Bf : Nat} {v : Value} {T1 T2 : Nat → Nat → Nat} {E : Nat → Prop} (h : RenD W lo n Bi Bt Bf v T1 T2) (h1 : Thd n T1) (h2 : Thd n T2) (hn1 : 1 < n) (hn : n ≤ 15) (hE : ∀ i, E i → i < lo) (hlo : lo ≤ W.heap.size) (k : Nat) :
    ∀ W', Below W.heap.size W W' → SeqD Fence.wide k Try.prog 121 #[.pointer (some ⟨Bi, 0, none⟩), .pointer (some ⟨Bt, 0, none⟩), .pointer (some ⟨Bf, 0, none⟩)] (RenG n T1 T2) E (fun xs => xs = renL n T1 T2) (fun pre => pre <+: renL n T1 T2) (renL n T1 T2).length lo W' := fun W' hb => by
  have hck : CK E W W' := CK.of_below hb
  have hO : OwnE W E lo v (encM (nonR n)) := ⟨h.2.2.1, fun r e he => by have := (h.2.2.1.blkP r e).1; have := hE r he; omega⟩
  have hEi : ¬ E Bi := fun e => by have := hE _ e; have := h.2.1; omega
  exact (ren_anyD n T1 T2 h1 h2 hn1 hn n E (nonR n) lo Bi Bt Bf v W' (cl_non) (Nat.le_of_eq unk_non) (hck.boxed h.1 hEi) hEi (hO.ck hck) ((h.2.2.2.1.fewer hE).ck hck) ((h.2.2.2.2.fewer hE).ck hck) (fun i e => by have := hE i e; have := hb.size; omega) (Nat.le_trans hlo hb.size)).any
theorem RowsV.cellsAt {W : World} {lo : Nat} {u : Value} {us : List Value} (h : RowsV W lo u us) : ∀ r, u.ownBlock = some r → ∃ o : Obj, W.heap[r]? = some o ∧ o.isCells = true := fun r e => by
  rcases h.2 with ⟨hv, _⟩ | ⟨g, cap, cur, hv, _, hcur, _⟩
  · rw [hv] at e; simp [Value.ownBlock] at e
  · rw [hv] at e
    obtain rfl : g = r := by simpa [Value.ownBlock] using e
    exact ⟨_, hcur, rfl⟩
theorem OwnJ.cellsAt {W : World} {lo : Nat} {u : Value} {zs : List Int} (h : OwnJ W lo u zs) : ∀ r, u.ownBlock = some r → ∃ o : Obj, W.heap[r]? = some o ∧ o.isCells = true := fun r e => by
  rcases h.2 with ⟨hv, _⟩ | ⟨g, cap, cur, hv, _, hcur, _⟩
  · rw [hv] at e; simp [Value.ownBlock] at e
  · rw [hv] at e
    obtain rfl : g = r := by simpa [Value.ownBlock] using e
    exact ⟨_, hcur, rfl⟩
theorem TabL.ownF {X Y : World} {lo : Nat} {u : Value} {us : List Value} {Rs : List (List Int)} {row : Option Nat} (h : TabL X lo u us Rs) (hg : X.grownBy Y row) (hr : ∀ r, row = some r → ∃ o : Obj, X.heap[r]? = some o ∧ o.isCells = false) : TabL Y lo u us Rs := by
  have key : ∀ r, row = some r → ∀ (q : ∃ o : Obj, X.heap[r]? = some o ∧ o.isCells = true), False := fun r e ⟨o, ho, hc⟩ => by
    obtain ⟨o', ho', hc'⟩ := hr r e
    rw [ho] at ho'
    cases ho'
    rw [hc] at hc'
    cases hc'
  exact h.kept hg (fun r e e' => key r e (h.own.cellsAt r e')) (fun x hx r e e' => by
    obtain ⟨k, hk⟩ := List.getElem?_of_mem hx
    exact key r e ((h.row k x hk).cellsAt r e'))
theorem tabL_nil (W : World) (lo : Nat) : TabL W lo (.slice none 0 0) [] [] := ⟨⟨rfl, .inl ⟨rfl, rfl⟩⟩, rfl, fun k x h => by simp at h, fun x h => by simp at h, fun j k x y _ h => by simp at h⟩
theorem TabL.setLow {W : World} {lo : Nat} {u : Value} {us : List Value} {Rs : List (List Int)} (h : TabL W lo u us Rs) {B : Nat} (hB : B < lo) (v : Value) : TabL (W.setCell ⟨B, 0, none⟩ v) lo u us Rs :=
  h.kept (set_gb W B 0 v) (fun r e e' => by
    have : B = r := by simpa using e
    have := (h.own.blkP r e').1
    omega) (fun x hx r e e' => by
    have : B = r := by simpa using e
    have := (h.rowP x hx r e').1
    omega)
theorem atInfo : (Try.prog.info? 25).map (fun i => (i.zero, i.size, i.bytes)) = some (some (.slice none 0 0), 1, 24) := by kernel_rfl
theorem atm_step {W V1 V2 : World} {lo k n1 B0 Ba Br Bc : Nat} {E : Nat → Prop} {u v' vx : Value} {us : List Value} {pre : List (List (Option Nat))} {x : List (Option Nat)} {w : World}
    (s1 : Boxed W Ba 46 u) (s2 : Boxed W Br 46 (.slice none 0 0)) (s3 : Boxed W Bc 2 (.int .i64 0)) (s4 : TabL W lo u us (pre.map encM)) (s6 : ∀ r, u.ownBlock = some r → E r) (sE : E Br ∧ E Bc ∧ E Ba) (s8 : ∀ x ∈ us, ∀ r, x.ownBlock = some r → r < k) (s10 : lo ≤ k) (s11 : Below w.heap.size w W) (s12 : B0 ≤ W.heap.size)
    (hR : OwnE W E k vx (encM x)) (hn1 : n1 ≤ W.heap.size) (hlo : lo ≤ W.heap.size) (hwlo : w.heap.size ≤ lo) (hba : Ba < lo) (hbr : Br < lo) (hbc : Bc < lo) (hbaw : w.heap.size ≤ Ba) (hne1 : Ba ≠ Br) (hne2 : Ba ≠ Bc) (hl : pre.length < 500)
    (hV1 : ∃ o, V1 = W.alloc o) (h1 : RowsV V2 lo v' (us ++ [vx])) (h2 : V1.grownBy V2 u.ownBlock) (h4 : v'.ownBlock = u.ownBlock ∨ v'.ownBlock = some V1.heap.size) (hf : ∃ a c, v' = .slice a (pre ++ [x]).length c) :
    (Kept B0 E W (V2.setCell ⟨Ba, 0, none⟩ v') ∧ ∃ u us, Boxed (V2.setCell ⟨Ba, 0, none⟩ v') Ba 46 u ∧ Boxed (V2.setCell ⟨Ba, 0, none⟩ v') Br 46 (.slice none 0 0) ∧ Boxed (V2.setCell ⟨Ba, 0, none⟩ v') Bc 2 (.int .i64 0) ∧ TabL (V2.setCell ⟨Ba, 0, none⟩ v') lo u us ((pre ++ [x]).map encM) ∧ (∃ a c, u = .slice a (pre ++ [x]).length c) ∧ (∀ r, u.ownBlock = some r → growE E n1 (V2.setCell ⟨Ba, 0, none⟩ v') r) ∧ (growE E n1 (V2.setCell ⟨Ba, 0, none⟩ v') Br ∧ growE E n1 (V2.setCell ⟨Ba, 0, none⟩ v') Bc ∧ growE E n1 (V2.setCell ⟨Ba, 0, none⟩ v') Ba) ∧ (∀ x ∈ us, ∀ r, x.ownBlock = some r → r < (V2.setCell ⟨Ba, 0, none⟩ v').heap.size) ∧ (pre ++ [x]).length ≤ 500 ∧ lo ≤ (V2.setCell ⟨Ba, 0, none⟩ v').heap.size ∧ Below w.heap.size w (V2.setCell ⟨Ba, 0, none⟩ v') ∧ B0 ≤ (V2.setCell ⟨Ba, 0, none⟩ v').heap.size) ∧ Boxed V2 Ba 46 u := by
  obtain ⟨o, rfl⟩ := hV1
  have hb1 : Below W.heap.size W (W.alloc o) := (Below.refl _ _).alloc (Nat.le_refl _) _
  have hz1 : (W.alloc o).heap.size = W.heap.size + 1 := by simp
  have hz2 : (W.alloc o).heap.size ≤ V2.heap.size := h2.size
  have hub : ∀ r, u.ownBlock = some r → lo ≤ r := fun r e => (s4.own.blkP r e).1
  have low : ∀ B, B < lo → some B ≠ u.ownBlock := fun B hB e => by have := hub B e.symm; omega
  have c1 : Boxed V2 Ba 46 u := (s1.alloc o).kept h2 (low _ hba)
  have c2 : Boxed V2 Br 46 (.slice none 0 0) := (s2.alloc o).kept h2 (low _ hbr)
  have c3 : Boxed V2 Bc 2 (.int .i64 0) := (s3.alloc o).kept h2 (low _ hbc)
  have g3 := set_gb V2 Ba 0 v'
  have hT1 : TabL (W.alloc o) lo u us (pre.map encM) := s4.below hb1
  have hvJ : OwnJ (W.alloc o) lo vx (encM x) := (hR.1.baseP s10).below hb1 (Nat.le_refl _)
  have hT2 : TabL V2 lo v' (us ++ [vx]) ((pre ++ [x]).map encM) := by
    rw [List.map_append]
    exact hT1.snoc hvJ (fun r e e2 => hR.2 r e (s6 r e2)) (fun y hy r e e2 => by have := s8 y hy r e2; have := (hR.1.blkP r e).1; omega) h2 h1 (fun G e => by
      rcases h4 with h4 | h4
      · exact .inl (h4 ▸ e)
      · rw [h4] at e; cases e; exact .inr (Nat.le_refl _))
  have hT3 := hT2.setLow hba v'
  have hz3 : (V2.setCell ⟨Ba, 0, none⟩ v').heap.size = V2.heap.size := by simp
  refine ⟨⟨((Kept.grown (gb_below hb1) (fun r e => by cases e)).trans (Kept.grown h2 (fun r e => s6 r e))).trans (Kept.grown g3 (fun r e => by cases e; exact sE.2.2)), v', us ++ [vx], c1.set _, c2.kept g3 (fun e => hne1 (by cases e; rfl)), c3.kept g3 (fun e => hne2 (by cases e; rfl)), hT3, hf, ?_, ⟨.inl sE.1, .inl sE.2.1, .inl sE.2.2⟩, ?_, ?_, by omega, ?_, by omega⟩, c1⟩
  · intro r e
    rcases h4 with h4 | h4
    · exact .inl (s6 r (h4 ▸ e))
    · have hr := (hT3.own.blkP r e).2
      rw [h4] at e
      cases e
      exact .inr ⟨by omega, hr⟩
  · intro y hy r e
    obtain ⟨j, hj⟩ := List.getElem?_of_mem hy
    exact ((hT3.row j y hj).blkP r e).2
  · simp; omega
  · exact ((s11.alloc s11.size o).grown h2 (by omega) (fun r e => by have := hub r e; omega)).setCell (p := ⟨Ba, 0, none⟩) hbaw _
set_option maxRecDepth 100000 in
set_option maxHeartbeats 4000000 in
theorem Atm_main (n : Nat) (s : Value) (bs : List Blk) (w : World) (h : SB w s bs) (hi : isSysImpl (n : Int) bs = true) (hf : fullB (n : Int) bs = true) : Calls Try.prog 32 #[.agg #[.int .i64 (n : Int), s]] w (RRows (auL (autL n bs)) w) := by
  have h3 := (sys_size hi).1
  have h15 := (sys_size hi).2.1
  have HA := Lib.hid fun W (hb : Below w.heap.size w W) => automorphisms_any n s bs W (h.below hb (Nat.le_refl _)) hi hf
  have hc0 : fullC (n : Int) bs = 0 := by simp [fullC, hi, hf]
  have hfc := fun W hb B c0 c1 => fullCode_one B (n : Int) s bs W (h.below (w' := W) hb (Nat.le_refl _)) c0 c1
  rw [hc0] at hfc
  have HT := Lib.hid (thdS hi hf)
  have HRL := Lib.hid (show ∀ z ∈ autL n bs, z.length = n from fun z hz => isoL_rowlen (thdS hi hf) (thdS hi hf) hz)
  obtain ⟨X, hX⟩ : ∃ X, X = renL n (T3 bs) (T3 bs) := ⟨_, rfl⟩
  have hXm : autL n bs = X.map encM := by rw [hX, renL_aut hi hf]
  obtain ⟨rr, hrr⟩ : ∃ rr : List (List Int) × Int, rr = auL (autL n bs) := ⟨_, rfl⟩
  rw [← hrr]
  rw [hXm] at hrr HRL
  have HRR := Lib.hid hrr
  have HX := Lib.hid hX
  obtain ⟨a0, c0, rfl⟩ := h.slice
  obtain ⟨W1, hW1⟩ : ∃ W1, W1 = (((w.alloc (.cells #[.int .i64 (n : Int), .slice a0 bs.length c0] 31)).alloc (.cells #[.slice none 0 0] 46)).alloc (.cells #[.int .i64 0] 2)).alloc (.cells #[.int .i64 (n : Int), .slice a0 bs.length c0] 31) := ⟨_, rfl⟩
  have hB1 : Below w.heap.size w W1 := by rw [hW1]; exact ((((Below.refl _ _).alloc (Nat.le_refl _) _).alloc (by simp) _).alloc (by simp <;> omega) _).alloc (by simp <;> omega) _
  have q0 : W1.cell? ⟨w.heap.size, 0, none⟩ = some (.int .i64 n) := by rw [hW1]; simp [go_sem]
  have q1 : W1.cell? ⟨w.heap.size, 1, none⟩ = some (.slice a0 bs.length c0) := by rw [hW1]; simp [go_sem]
  have b4 : Boxed W1 (w.heap.size + 1) 46 (.slice none 0 0) := by
    have := ((Boxed.new (w.alloc (.cells #[.int .i64 (n : Int), .slice a0 bs.length c0] 31)) 46 (.slice none 0 0)).alloc (.cells #[.int .i64 0] 2)).alloc (.cells #[.int .i64 (n : Int), .slice a0 bs.length c0] 31)
    simp only [World.size_alloc] at this
    rw [hW1]
    exact this
  have b5 : Boxed W1 (w.heap.size + 1 + 1) 2 (.int .i64 0) := by
    have := (Boxed.new ((w.alloc (.cells #[.int .i64 (n : Int), .slice a0 bs.length c0] 31)).alloc (.cells #[.slice none 0 0] 46)) 2 (.int .i64 0)).alloc (.cells #[.int .i64 (n : Int), .slice a0 bs.length c0] 31)
    simp only [World.size_alloc] at this
    rw [hW1]
    exact this
  have hz1 : W1.heap.size = w.heap.size + 1 + 1 + 1 + 1 := by rw [hW1]; simp
  have HCL := Lib.hid (hfc W1 hB1 (w.heap.size + 1 + 1 + 1) (by rw [hW1]; simp [go_sem]) (by rw [hW1]; simp [go_sem]))
  clear hfc hc0 h hi hf hrr hX hXm
  have hro : Fence.wide.round = none := rfl
  refine (callsIn_wide (n := 9)).1 ?_
  refine callsIn_of_wp_marks Try.func32 rfl trivial ?_ hro
  simp only [Try.ntmps32, List.size_toArray, List.length_cons, List.length_nil, Nat.reduceAdd, Nat.reduceSub, Array.replicate_succ, Array.replicate_zero, List.push_toArray, List.append_toArray, List.nil_append, List.cons_append]
  gi_wp2_with (first | fail)
  rw [← hW1]
  refine ⟨trivial, (callsIn_wide.2 HCL.out).mono ?_⟩
  rintro e w2 ⟨rfl, hb2⟩
  have hB2 := hB1.trans (hb2.mono hB1.size)
  have q0 := (hb2.cell (p := ⟨w.heap.size, 0, none⟩) (show w.heap.size < W1.heap.size by omega)).trans q0
  have q1 := (hb2.cell (p := ⟨w.heap.size, 1, none⟩) (show w.heap.size < W1.heap.size by omega)).trans q1
  have b4 : Boxed w2 _ _ _ := (hb2.block (w.heap.size + 1) (by omega)).trans b4
  have b5 : Boxed w2 _ _ _ := (hb2.block (w.heap.size + 1 + 1) (by omega)).trans b5
  have hz2 := hb2.size
  have hlt2 : w.heap.size < w2.heap.size := by omega
  clear hb2 hW1 hB1 HCL
  obtain ⟨Br, hBr⟩ : ∃ Br, Br = w.heap.size + 1 := ⟨_, rfl⟩
  obtain ⟨Bc, hBc⟩ : ∃ Bc, Bc = w.heap.size + 1 + 1 := ⟨_, rfl⟩
  rw [← hBc] at b5 ⊢
  rw [← hBr] at b4 ⊢
  gi_wp2_with (first | fail)
  obtain ⟨w3, hw3⟩ : ∃ w3, w3 = w2.alloc (.cells #[.slice none 0 0] 46) := ⟨_, rfl⟩
  have hB3 : Below w.heap.size w w3 := by rw [hw3]; exact hB2.alloc hB2.size _
  have b6 : Boxed w3 w2.heap.size 46 (.slice none 0 0) := by rw [hw3]; exact Boxed.new w2 _ _
  have b4 : Boxed w3 Br 46 (.slice none 0 0) := by rw [hw3]; exact b4.alloc _
  have b5 : Boxed w3 Bc 2 (.int .i64 0) := by rw [hw3]; exact b5.alloc _
  have hz3 : w3.heap.size = w2.heap.size + 1 := by rw [hw3]; simp
  obtain ⟨Ba, hBa⟩ : ∃ Ba, Ba = w2.heap.size := ⟨_, rfl⟩
  rw [← hw3]
  rw [← hBa] at b6 ⊢
  have hbr1 : w.heap.size ≤ Br := by omega
  have hbr2 : Br < w3.heap.size := by omega
  have hbc1 : w.heap.size ≤ Bc := by omega
  have hbc2 : Bc < w3.heap.size := by omega
  have hba1 : w.heap.size ≤ Ba := by omega
  have hba2 : Ba < w3.heap.size := by omega
  have hbne : Br ≠ Bc := by omega
  have hane : Ba ≠ Bc := by omega
  have hanr : Ba ≠ Br := by omega
  clear hBa hz1 hw3 hB2 q0 q1 hz2 hlt2 hz3
  refine ⟨trivial, (callsIn_wide.2 (HA.out w3 hB3)).mono ?_⟩
  rintro e w4 ⟨Bi, Bt, Bf, v, rfl, hD, hb4⟩
  have b4 : Boxed w4 Br 46 (.slice none 0 0) := (hb4.block Br hbr2).trans b4
  have b5 : Boxed w4 Bc 2 (.int .i64 0) := (hb4.block Bc hbc2).trans b5
  have b6 : Boxed w4 Ba 46 (.slice none 0 0) := (hb4.block Ba hba2).trans b6
  have hB4 := hB3.trans (hb4.mono hB3.size)
  have hz4 := hb4.size
  have hz03 := hB3.size
  have HSQ := Lib.hid (hD.seqD (E := fun i => i = Br ∨ i = Bc ∨ i = Ba) HT.out HT.out (by omega) (by omega) (fun i e => by rcases e with rfl | rfl | rfl <;> omega) hz4 (9 - 1))
  rw [← HX.out] at HSQ
  obtain ⟨lo, hlo⟩ : ∃ lo, lo = w3.heap.size := ⟨_, rfl⟩
  rw [← hlo] at HSQ hz4 hz03 hbr2 hbc2 hba2
  clear hD hb4 HT HA hB3 hlo
  gi_wp2
  refine wpIn_rangeFunc_D hro (by omega) (gf := 121) (lb := #[.pointer (some ⟨Bi, 0, none⟩), .pointer (some ⟨Bt, 0, none⟩), .pointer (some ⟨Bf, 0, none⟩)]) rfl trivial (enters_of Try.func121 (by kernel_rfl) rfl) rfl (fun i e => by rcases e with rfl | rfl | rfl <;> omega) HSQ.out
    (fun pre k E W => ∃ u us, Boxed W Ba 46 u ∧ Boxed W Br 46 (.slice none 0 0) ∧ Boxed W Bc 2 (.int .i64 0) ∧ TabL W lo u us (pre.map encM) ∧ (∃ a c, u = .slice a pre.length c) ∧ (∀ r, u.ownBlock = some r → E r) ∧ (E Br ∧ E Bc ∧ E Ba) ∧ (∀ x ∈ us, ∀ r, x.ownBlock = some r → r < k) ∧ pre.length ≤ 500 ∧ lo ≤ k ∧ Below w.heap.size w W ∧ w4.heap.size ≤ W.heap.size)
    (fun c pre k E W => c = .ret ∧ pre.length = 501 ∧ Boxed W Br 46 (.slice none 0 0) ∧ Boxed W Bc 2 (.int .i64 3) ∧ Below w.heap.size w W)
    (fun pre k E t Y Z row hs hg hr => by
      obtain ⟨u, us, s1, s2, s3, s4, s5, s6, s7, s8, s9, s10, s11, s12⟩ := hs
      have hne : ∀ B, B < w4.heap.size → some B ≠ row := fun B hB e => by have := (hr _ e.symm).1; omega
      exact ⟨u, us, s1.kept hg (hne _ (by omega)), s2.kept hg (hne _ (by omega)), s3.kept hg (hne _ (by omega)), s4.ownF hg (fun r e => (hr r e).2), s5, s6, s7, s8, s9, s10, s11.grown hg s11.size (fun r e => by have := (hr r e).1; omega), Nat.le_trans s12 hg.size⟩)
    (fun c pre k E t Y Z row hs hg hr => ⟨hs.1, hs.2.1, hs.2.2.1.kept hg (fun e => by have := (hr _ e.symm).1; omega), hs.2.2.2.1.kept hg (fun e => by have := (hr _ e.symm).1; omega), hs.2.2.2.2.grown hg hs.2.2.2.2.size (fun r e => by have := (hr r e).1; omega)⟩)
    ⟨_, [], b6, b4, b5, tabL_nil _ _, ⟨none, 0, by rfl⟩, fun r e => by simp [Value.ownBlock] at e, ⟨.inl rfl, .inr (.inl rfl), .inr (.inr rfl)⟩, fun x hx => by simp at hx, by simp, Nat.le_refl _, hB4, Nat.le_refl _⟩
    (fun x k E vx a' W' => (∃ (y0 y1 y4 y7 y8 y9 y10 y11 y12 y13 y14 y15 y16 y17 y18 y19 y20 y21 y22 y23 : Value), a' = { tmps := #[y0, y1, .pointer (some ⟨Br, 0, none⟩), .pointer (some ⟨Bc, 0, none⟩), y4, .pointer (some ⟨Ba, 0, none⟩), vx, y7, y8, y9, y10, y11, y12, y13, y14, y15, y16, y17, y18, y19, y20, y21, y22, y23], defers := [] }) ∧ RenG n (T3 bs) (T3 bs) x k E vx W')
    (fun x k E vx a' u X Y row hs hg hr => ⟨hs.1, OwnE.ck hs.2.1 (CK.of_grown hg fun r e => (hr r e).2), hs.2.2⟩) ?assign ?body ?done ?stop
  case assign =>
    intro l' pre x k E vx W' K hi hRx hK
    obtain ⟨a9, c9, rfl⟩ := OwnJ.formS hRx.1.1
    simp only [List.zip_toArray, List.zip_cons_cons, List.zip_nil_right, List.size_toArray, List.length_cons, List.length_nil, List.foldl_toArray', List.foldl_cons, List.foldl_nil, List.setIfInBounds_toArray, List.set_cons_succ, List.set_cons_zero]
    gi_wp2
    exact hK _ _ (Kept.refl _ _ _) hi ⟨⟨_, _, _, _, _, _, _, _, _, _, _, _, _, _, _, _, _, _, _, _, by rw [hBr, hBc]⟩, hRx⟩
  case body =>
    rintro l' n1 pre x k E vx a' W' hn1' hwn ⟨u, us, s1, s2, s3, s4, s5, s6, ⟨sr, sc, sa⟩, s8, s9, s10, s11, s12⟩ ⟨⟨y0, y1, y4, y7, y8, y9, y10, y11, y12, y13, y14, y15, y16, y17, y18, y19, y20, y21, y22, y23, rfl⟩, hRx⟩ hlen
    clear hBr hBc
    obtain ⟨a9, c9, rfl⟩ := OwnJ.formS hRx.1.1
    obtain ⟨au, cu, rfl⟩ := s5
    have x1 := s1.cell
    have x2 := s1.frozen
    by_cases h500 : pre.length = 500
    · have x3 := s2.cell
      have x4 := s2.frozen
      have x5 := s3.cell
      have x6 := s3.frozen
      obtain ⟨V, hV⟩ : ∃ V, V = (W'.setCell ⟨Br, 0, none⟩ (.slice none 0 0)).setCell ⟨Bc, 0, none⟩ (.int .i64 3) := ⟨_, rfl⟩
      have g1 := set_gb W' Br 0 (.slice none 0 0)
      have g2 := set_gb (W'.setCell ⟨Br, 0, none⟩ (.slice none 0 0)) Bc 0 (.int .i64 3)
      have x7 : (W'.setCell ⟨Br, 0, none⟩ (.slice none 0 0)).cell? ⟨Bc, 0, none⟩ = some (.int .i64 0) := (s3.kept g1 (fun e => hbne (by cases e; rfl))).cell
      have x8 : (W'.setCell ⟨Br, 0, none⟩ (.slice none 0 0)).frozen? ⟨Bc, 0, none⟩ = false := (s3.kept g1 (fun e => hbne (by cases e; rfl))).frozen
      have hix : Kept w4.heap.size E W' V ∧ ((pre ++ [x]).length = 501 ∧ Boxed V Br 46 (.slice none 0 0) ∧ Boxed V Bc 2 (.int .i64 3) ∧ Below w.heap.size w V) := by
        rw [hV]
        exact ⟨(Kept.grown g1 (fun r e => by cases e; exact sr)).trans (Kept.grown g2 (fun r e => by cases e; exact sc)), by rw [List.length_append, h500]; rfl, (s2.set _).kept g2 (fun e => hbne (by cases e; rfl)), (s3.kept g1 (fun e => hbne (by cases e; rfl))).set _, (s11.setCell (p := ⟨Br, 0, none⟩) hbr1 _).setCell (p := ⟨Bc, 0, none⟩) hbc1 _⟩
      have HIX := Lib.hid hix
      have HV := Lib.hid hV
      rw [h500] at x1
      have hd : decide ((500 : Int) = 500) = true := by decide
      clear hix hV g1 g2 s1 s2 s3 s4 s6 s8 s11 hRx HSQ b4 b5 b6 hB4
      gi_wp2
      rw [← HV.out]
      exact ⟨HIX.out.1, rfl, HIX.out.2⟩
    · have h500' : pre.length < 500 := by omega
      have hne5 : ((pre.length : Int) == 500) = false := by rw [beq_eq_false_iff_ne]; omega
      obtain ⟨i0, hi0, hz0, hz1, hz2⟩ := info_parts atInfo
      have hin : w.heap.size ≤ W'.heap.size := s11.size
      have hus : us.length = pre.length := by rw [s4.len, List.length_map]
      have hlW : lo ≤ W'.heap.size := by omega
      have hrow : (W'.alloc (.cells #[.slice a9 (encM x).length c9] 25)).ownsRow lo 25 1 (.slice au pre.length cu) us.length us := (s4.below ((Below.refl _ _).alloc (Nat.le_refl _) _)).own
      have hlo1 : lo ≤ (W'.alloc (.cells #[.slice a9 (encM x).length c9] 25)).heap.size := by simp; omega
      have HST := Lib.hid (fun v' V2 h1 h2 h4 hf => atm_step (V1 := W'.alloc (.cells #[.slice a9 (encM x).length c9] 25)) (V2 := V2) (v' := v') (n1 := n1) (B0 := w4.heap.size) s1 s2 s3 s4 s6 ⟨sr, sc, sa⟩ s8 s10 s11 s12 hRx.1 hn1' hlW hz03 hba2 hbr2 hbc2 hba1 hanr hane h500' ⟨_, rfl⟩ h1 h2 h4 hf)
      clear s1 s2 s3 s4 s6 s8 s11 hRx HSQ b4 b5 b6 hB4
      gi_wp2_with (gi_at_builtin; refine wpListIn_append_own_at _ rfl _ _ 46 rfl lo 25 i0 _ 1 24 Try.underlying46 hi0 hz0 hz1 hz2 rfl (by decide) _ us.length us rfl hrow ⟨W'.heap.size, 0, none⟩ 1 1 [.slice a9 (encM x).length c9] rfl rfl (cell_one_new _ _ _) (by simp [Value.oneCell']) (by unfold maxLen; omega) (by omega) hlo1 ?_; intro v' V2 h1 h2 h3 h4; have h1' : RowsV V2 lo v' (us ++ [.slice a9 (encM x).length c9]) := (by unfold RowsV; rw [List.length_append]; exact h1); have hf : ∃ a c, v' = .slice a (pre ++ [x]).length c := (by
          rw [List.length_append, ← hus]
          rcases h1.2 with ⟨hv, e⟩ | ⟨g, cap, cur, hv, _⟩
          · simp at e
          · exact ⟨_, _, hv⟩); obtain ⟨av, cv, rfl⟩ := hf; have HS := Lib.hid (HST.out _ V2 h1' h2 h4 ⟨_, _, rfl⟩); have z1 := HS.out.2.cell; have z2 := HS.out.2.frozen; clear h1 h2 h3 h4 h1' HST hrow x1 x2)
      have HH := HS.out.1
      rw [← show (pre ++ [x]).length = pre.length + 1 by simp]
      exact HH
  case done =>
    subst hBr
    subst hBc
    rintro D ys k E W' hD hE hys ⟨u, us, s1, s2, s3, s4, s5, s6, s7, s8, s9, s10, s11, s12⟩ hK
    have hrr : rr = (X.map encM, 0) := by
      rw [HRR.out]
      unfold auL
      rw [if_neg (by rw [List.length_map, ← hys]; omega)]
    subst hrr
    rw [hys] at s4
    obtain ⟨a5, c5, rfl⟩ := s5
    rw [hys] at s1 s4
    have x1 := s1.cell
    have x2 := s1.frozen
    have x3 := s2.cell
    have x4 := s2.frozen
    obtain ⟨V, hV⟩ : ∃ V, V = (W'.setCell ⟨w.heap.size + 1, 0, none⟩ (.slice a5 X.length c5)).setCell ⟨w.heap.size + 1 + 1, 0, none⟩ (.int .i64 0) := ⟨_, rfl⟩
    have g1 := set_gb W' (w.heap.size + 1) 0 (.slice a5 X.length c5)
    have g2 := set_gb (W'.setCell ⟨w.heap.size + 1, 0, none⟩ (.slice a5 X.length c5)) (w.heap.size + 1 + 1) 0 (.int .i64 0)
    have x7 : (W'.setCell ⟨w.heap.size + 1, 0, none⟩ (.slice a5 X.length c5)).cell? ⟨w.heap.size + 1 + 1, 0, none⟩ = some (.int .i64 0) := (s3.kept g1 (fun e => by simp at e)).cell
    have x8 : (W'.setCell ⟨w.heap.size + 1, 0, none⟩ (.slice a5 X.length c5)).frozen? ⟨w.heap.size + 1 + 1, 0, none⟩ = false := (s3.kept g1 (fun e => by simp at e)).frozen
    have hix : Boxed V (w.heap.size + 1) 46 (.slice a5 X.length c5) ∧ Boxed V (w.heap.size + 1 + 1) 2 (.int .i64 0) ∧ TabL V lo (.slice a5 X.length c5) us (X.map encM) ∧ Below w.heap.size w V := by
      rw [hV]
      exact ⟨(s2.set _).kept g2 (fun e => by simp at e), (s3.kept g1 (fun e => by simp at e)).set _, (s4.setLow hbr2 _).setLow hbc2 _, (s11.setCell (p := ⟨w.heap.size + 1, 0, none⟩) hbr1 _).setCell (p := ⟨w.heap.size + 1 + 1, 0, none⟩) hbc1 _⟩
    have hk2 : V.heap[D]? = some (.deferred (some [])) := by
      rw [hV]
      have hlt := (Array.getElem?_eq_some_iff.1 hK).1
      exact (g2.block D (Nat.lt_of_lt_of_le hlt g1.size) (fun e => by have := Option.some.inj e; omega)).trans ((g1.block D hlt (fun e => by have := Option.some.inj e; omega)).trans hK)
    have hM5 : Marks w.heap.size V V.heap.size [{ target := .collected D, args := #[] }] := ⟨D, rfl, by omega, (Array.getElem?_eq_some_iff.1 hk2).1, hk2, trivial⟩
    have HIX := Lib.hid hix
    have HM5 := Lib.hid hM5
    have HV := Lib.hid hV
    clear hix hV g1 g2 s1 s2 s3 s4 s6 s8 s11 HSQ b4 b5 b6 hB4 hM5 hk2 hK HRR
    gi_wp2
    rw [← HV.out]
    refine leaves_marks (n0 := w.heap.size) (fun W => Boxed W (w.heap.size + 1) 46 (.slice a5 X.length c5) ∧ Boxed W (w.heap.size + 1 + 1) 2 (.int .i64 0) ∧ TabL W lo (.slice a5 X.length c5) us (X.map encM) ∧ Below w.heap.size w W) ?_ ?_ _ V.heap.size V HM5.out HIX.out
    · rintro W D ⟨e1, e2, e3, e4⟩ hD hK
      exact ⟨boxed_put _ e1 hK, boxed_put _ e2 hK, (show OwnFrom w.heap.size (fun (_ : Unit) W => TabL W lo (.slice a5 X.length c5) us (X.map encM)) from fun _ Y Z row hs hg hr => hs.ownF hg (fun r e => (hr r e).2)).putObj (s := ()) _ e3 hD hK rfl, e4.trans (belowK_b (w := w) (Nat.le_refl _) W D _ _ hD hK rfl rfl)⟩
    · rintro W ⟨e1, e2, e3, e4⟩
      have y1 := e1.cell
      have y2 := e2.cell
      exact ⟨_, by simp [results, Try.f32, go_sem, y1, y2], _, rfl, (e3.base hz03).rss ⟨a5, c5, by rw [List.length_map]⟩ (fun z hz => by rw [HRL.out z hz]; omega), e4⟩
  case stop =>
    subst hBr
    subst hBc
    rintro D c pre k E W' hD hE hSp ⟨rfl, hl, e3, e4, e5⟩ hK
    have hrr : rr = ([], 3) := by
      rw [HRR.out]
      unfold auL
      rw [if_pos (by rw [List.length_map]; have := hSp.length_le; omega)]
    subst hrr
    have hM5 : Marks w.heap.size W' W'.heap.size [{ target := .collected D, args := #[] }] := ⟨D, rfl, by omega, (Array.getElem?_eq_some_iff.1 hK).1, hK, trivial⟩
    clear HSQ b4 b5 b6 hB4 hK HRR hSp
    gi_wp2
    refine leaves_marks (n0 := w.heap.size) (fun W => Boxed W (w.heap.size + 1) 46 (.slice none 0 0) ∧ Boxed W (w.heap.size + 1 + 1) 2 (.int .i64 3) ∧ Below w.heap.size w W) ?_ ?_ _ W'.heap.size W' hM5 ⟨e3, e4, e5⟩
    · rintro W D ⟨e1, e2, e3⟩ hD hK
      exact ⟨boxed_put _ e1 hK, boxed_put _ e2 hK, e3.trans (belowK_b (w := w) (Nat.le_refl _) W D _ _ hD hK rfl rfl)⟩
    · rintro W ⟨e1, e2, e3⟩
      have y1 := e1.cell
      have y2 := e2.cell
      exact ⟨_, by simp [results, Try.f32, go_sem, y1, y2], _, rfl, rss_nil _ _, e3⟩
set_option maxRecDepth 100000 in
theorem Atm_any (v : Int) (s : Value) (bs : List Blk) (w : World) (h : SB w s bs) : Calls Try.prog 32 #[.agg #[.int .i64 v, s]] w (RRows (auF v bs) w) := by
  by_cases hc : fullC v bs = 0
  · obtain ⟨hi, hf⟩ := fullC_ok hc
    obtain ⟨n, rfl⟩ : ∃ n : Nat, v = (n : Int) := ⟨v.toNat, by have := (sys_size hi).1; omega⟩
    have := Atm_main n s bs w h hi hf
    unfold auF
    rw [if_pos hc, Int.toNat_natCast]
    exact this
  · have HV := Lib.hid (show auF v bs = ([], fullC v bs) by simp [auF, hc])
    rw [HV.out]
    have hfc := fun W (hb : Below w.heap.size w W) B c0 c1 => fullCode_one B v s bs W (h.below hb (Nat.le_refl _)) c0 c1
    obtain ⟨k, hk⟩ : ∃ k, k = fullC v bs := ⟨_, rfl⟩
    rw [← hk] at hfc hc ⊢
    have hk0 : (k == 0) = false := by simpa using hc
    have hk1 : (k != 0) = true := by simpa using hc
    obtain ⟨a0, c0, rfl⟩ := h.slice
    clear h hk HV
    obtain ⟨W1, hW1⟩ : ∃ W1, W1 = (((w.alloc (.cells #[.int .i64 v, .slice a0 bs.length c0] 31)).alloc (.cells #[.slice none 0 0] 46)).alloc (.cells #[.int .i64 0] 2)).alloc (.cells #[.int .i64 v, .slice a0 bs.length c0] 31) := ⟨_, rfl⟩
    have hB1 : Below w.heap.size w W1 := by rw [hW1]; exact ((((Below.refl _ _).alloc (Nat.le_refl _) _).alloc (by simp) _).alloc (by simp <;> omega) _).alloc (by simp <;> omega) _
    have b4 : Boxed W1 (w.heap.size + 1) 46 (.slice none 0 0) := by
      have := ((Boxed.new (w.alloc (.cells #[.int .i64 v, .slice a0 bs.length c0] 31)) 46 (.slice none 0 0)).alloc (.cells #[.int .i64 0] 2)).alloc (.cells #[.int .i64 v, .slice a0 bs.length c0] 31)
      simp only [World.size_alloc] at this
      rw [hW1]
      exact this
    have b5 : Boxed W1 (w.heap.size + 1 + 1) 2 (.int .i64 0) := by
      have := (Boxed.new ((w.alloc (.cells #[.int .i64 v, .slice a0 bs.length c0] 31)).alloc (.cells #[.slice none 0 0] 46)) 2 (.int .i64 0)).alloc (.cells #[.int .i64 v, .slice a0 bs.length c0] 31)
      simp only [World.size_alloc] at this
      rw [hW1]
      exact this
    have hz1 : W1.heap.size = w.heap.size + 1 + 1 + 1 + 1 := by rw [hW1]; simp
    have HCL := Lib.hid (hfc W1 hB1 (w.heap.size + 1 + 1 + 1) (by rw [hW1]; simp [go_sem]) (by rw [hW1]; simp [go_sem]))
    clear hfc
    have hro : Fence.wide.round = none := rfl
    refine (callsIn_wide (n := 9)).1 ?_
    refine callsIn_of_wp_marks Try.func32 rfl trivial ?_ hro
    simp only [Try.ntmps32, List.size_toArray, List.length_cons, List.length_nil, Nat.reduceAdd, Nat.reduceSub, Array.replicate_succ, Array.replicate_zero, List.push_toArray, List.append_toArray, List.nil_append, List.cons_append]
    gi_wp2_with (first | fail)
    rw [← hW1]
    refine ⟨trivial, (callsIn_wide.2 HCL.out).mono ?_⟩
    rintro e w2 ⟨rfl, hb2⟩
    have hB2 := hB1.trans (hb2.mono hB1.size)
    have b4 : Boxed w2 _ _ _ := (hb2.block (w.heap.size + 1) (by omega)).trans b4
    have b5 : Boxed w2 _ _ _ := (hb2.block (w.heap.size + 1 + 1) (by omega)).trans b5
    clear hb2 hW1 hB1 HCL
    have x1 := b4.cell
    have x2 := b4.frozen
    have g1 := set_gb w2 (w.heap.size + 1) 0 (.slice none 0 0)
    have g2 := set_gb (w2.setCell ⟨w.heap.size + 1, 0, none⟩ (.slice none 0 0)) (w.heap.size + 1 + 1) 0 (.int .i64 k)
    have x7 := (b5.kept g1 (fun e => by simp at e)).cell
    have x8 := (b5.kept g1 (fun e => by simp at e)).frozen
    have Y1 := Lib.hid ((b4.set (.slice none 0 0)).kept g2 (fun e => by simp at e))
    have Y2 := Lib.hid ((b5.kept g1 (fun e => by simp at e)).set (.int .i64 k))
    have Y3 := Lib.hid ((hB2.setCell (p := ⟨w.heap.size + 1, 0, none⟩) (Nat.le_succ _) (.slice none 0 0)).setCell (p := ⟨w.heap.size + 1 + 1, 0, none⟩) (by show w.heap.size ≤ w.heap.size + 1 + 1; omega) (.int .i64 k))
    clear g1 g2 b4 b5 hB2
    gi_wp2
    refine leaves_marks (n0 := w.heap.size) (fun W => Boxed W (w.heap.size + 1) 46 (.slice none 0 0) ∧ Boxed W (w.heap.size + 1 + 1) 2 (.int .i64 k) ∧ Below w.heap.size w W) ?_ ?_ [] 0 _ trivial ⟨Y1.out, Y2.out, Y3.out⟩
    · rintro W D ⟨e1, e2, e3⟩ hD hK
      exact ⟨boxed_put _ e1 hK, boxed_put _ e2 hK, e3.trans (belowK_b (w := w) (Nat.le_refl _) W D _ _ hD hK rfl rfl)⟩
    · rintro W ⟨e1, e2, e3⟩
      have y1 := e1.cell
      have y2 := e2.cell
      exact ⟨_, by simp [results, Try.f32, go_sem, y1, y2], _, rfl, rss_nil _ _, e3⟩
end Go.Proofs.Ytoicdfdfajfopaa

namespace Go.Proofs.Ytoicdfdfajfopaa
open Go.ChangeShapes Go.WideShapes Go.ChangeAt Go.RowKit Go.Deep Go.Joins
theorem ownKnobs : ownKnob Try.prog.godebug = none := by kernel_rfl
section
variable {H : Type} {enc : TypeId × Value → H} {W : World} {base : Nat} {held : Bool}
theorem arrCells : Try.prog.cellsOf 70 = 3 := by kernel_rfl
set_option maxRecDepth 100000 in
theorem open_arr3 {fuel : Nat} {cs : List Value} {x : DataW H × List MemPlace} (h : DataW.trod enc Try.prog W base (fun _ => true) held fuel 70 cs = some x) :
    ∃ a b c : Int, cs = [.int .i64 a, .int .i64 b, .int .i64 c] ∧ (Lit.int .i64 a).wf = true ∧ (Lit.int .i64 b).wf = true ∧ (Lit.int .i64 c).wf = true := by
  obtain ⟨xs, m, rfl, rfl, hl, hx, hat⟩ := DataW.trod_array Try.underlying70 h
  rw [arrCells] at hl
  match cs, hl with
  | [c0, c1, c2], _ =>
    match xs, hx with
    | [x0, x1, x2], _ =>
      have h0 := hat 0 (by omega)
      have h1 := hat 1 (by omega)
      have h2 := hat 2 (by omega)
      rw [int64Cells] at h0 h1 h2
      simp at h0 h1 h2
      obtain ⟨a, ha, _, wa⟩ := DataW.trod_int Try.underlying2 h0
      obtain ⟨b, hb, _, wb⟩ := DataW.trod_int Try.underlying2 h1
      obtain ⟨c, hc, _, wc⟩ := DataW.trod_int Try.underlying2 h2
      simp at ha hb hc
      exact ⟨a, b, c, by rw [ha, hb, hc], wa, wb, wc⟩
theorem add_at (b off i : Nat) : (⟨b, off, none⟩ : Addr).add i = ⟨b, off + i, none⟩ := by
  unfold Addr.add
  split
  · subst_vars; rfl
  · rfl
set_option maxRecDepth 100000 in
theorem open_arrs {fuel : Nat} {s : Value} {x : DataW H × List MemPlace} (h : DataW.trod enc Try.prog W base (fun _ => true) held fuel 22 [s] = some x) : ∃ bs, InB W s bs := by
  rcases open_slice Try.underlying22 h with ⟨hcs, _⟩ | ⟨a, len, cap, m, n, D, Pl, hcs, hb, hl, hm, hmm, hx, hi⟩
  · simp at hcs
    exact ⟨[], by simp, by simp, .inl ⟨none, 0, hcs, rfl⟩⟩
  · simp at hcs
    subst hcs
    simp at hmm
    subst hmm
    have hm' : m ≤ 9223372036854775807 := by unfold maxLen at hm; exact hm
    by_cases h0 : len = 0
    · subst h0
      exact ⟨[], by simp, by simp, .inl ⟨_, _, rfl, rfl⟩⟩
    · have cell : ∀ i, i < m → ∃ y : Blk, WFB y ∧ ∀ j (v : Value), [Value.int .i64 y.a, Value.int .i64 y.b, Value.int .i64 y.c][j]? = some v → W.cell? (a.add (i * 3 + j)) = some v := fun i him => by
        obtain ⟨cs', hc, ht⟩ := hi i him
        obtain ⟨p, q, r, rfl, wp, wq, wr⟩ := open_arr3 ht
        rw [arrCells] at hc
        obtain ⟨_, _, hat⟩ := World.cells?_some hc
        refine ⟨⟨p, q, r⟩, ⟨wp, wq, wr⟩, fun j v hv => ?_⟩
        have hj : j < 3 := by
          have := (List.getElem?_eq_some_iff.1 hv).1
          simpa using this
        rw [← Go.Deep.add_add, hat j hj]
        exact hv
      obtain ⟨F, hF⟩ := choose_lt (α := Blk) cell
      obtain ⟨b, off, spot⟩ := a
      have hc0 := (hF 0 (by omega)).2 0 _ rfl
      have hspot : spot = none := by simpa [Addr.add] using World.cell?_spot hc0
      subst hspot
      refine ⟨(List.range len).map F, ?_, by simp; omega, .inr ⟨b, off, m, by simp, ?_, ?_⟩⟩
      · intro y hy
        obtain ⟨i, hi', rfl⟩ := List.mem_map.1 hy
        exact (hF i (by have := List.mem_range.1 hi'; omega)).1
      · exact block_lt_of_cell hc0
      · intro k hk
        simp at hk
        have e : ((List.range len).map F)[k]?.getD default = F k := by simp [hk]
        rw [e]
        have := (hF k (by omega)).2
        refine ⟨?_, ?_, ?_⟩
        · have h0 := this 0 _ rfl
          rw [add_at] at h0
          exact h0
        · have h1 := this 1 _ rfl
          rw [add_at, ← Nat.add_assoc] at h1
          exact h1
        · have h2 := this 2 _ rfl
          rw [add_at, ← Nat.add_assoc] at h2
          exact h2
theorem isSys : ∃ f0 f1 : Field, Try.prog.underlying 24 = some (.struct #[f0, f1]) ∧ f0.type = 2 ∧ f1.type = 22 ∧ oneCellFields Try.prog #[f0, f1] = true :=
  ⟨_, _, Try.underlying24, rfl, rfl, by kernel_rfl⟩
theorem sysCells : Try.prog.cellsOf 24 = 2 := by kernel_rfl
set_option maxRecDepth 100000 in
theorem open_system {r : Reach} {b0 : Nat} {v : Value} {d : DataW H} {p : List MemPlace} (hv : Value.okWide Try.prog W r b0 24 v) (h : DataW.Trod enc Try.prog W base (fun _ => true) held 24 v d p) :
    ∃ (n : Int) (s : Value) (bs : List Blk), v = .agg #[.int .i64 n, s] ∧ WF n ∧ InB W s bs := by
  obtain ⟨f0, f1, hu, e0, e1, hone⟩ := isSys
  obtain ⟨v0, v1, y0, y1, n, rfl, _, _, h0, h1⟩ := open_agg2 hu hone sysCells hv h
  rw [e0] at h0
  rw [e1] at h1
  obtain ⟨k, hk, _, wk⟩ := DataW.trod_int Try.underlying2 h0
  simp at hk
  subst hk
  obtain ⟨bs, hbs⟩ := open_arrs h1
  exact ⟨k, v1, bs, rfl, wk, hbs⟩
end
end Go.Proofs.Ytoicdfdfajfopaa

namespace Go.Proofs.Ytoicdfdfajfopaa
open Go.ChangeShapes Go.WideShapes Go.ChangeAt Go.RowKit Go.Deep Go.Joins
/-- The value is a slice of just these integers, however many. -/
def InZ (w : World) (s : Value) (zs : List Int) : Prop :=
  (∀ z ∈ zs, WF z) ∧ zs.length ≤ 9223372036854775807 ∧ ((∃ a c, s = .slice a 0 c ∧ zs = []) ∨ ∃ b off cap, s = .slice (some ⟨b, off, none⟩) zs.length cap ∧ b < w.heap.size ∧ Ints w b off zs)
theorem InZ.slice {w : World} {s : Value} {zs : List Int} (h : InZ w s zs) : ∃ a c, s = .slice a zs.length c := by
  rcases h.2.2 with ⟨a, c, rfl, rfl⟩ | ⟨b, off, cap, rfl, _⟩ <;> exact ⟨_, _, rfl⟩
theorem InZ.ib {w : World} {s : Value} {zs : List Int} (h : InZ w s zs) (hl : zs.length ≤ 1048576) : IB w s zs := ⟨by omega, h.2.2⟩
/-- The value is a slice of just these rows, however many. -/
def InSS (w : World) (s : Value) (n : Nat) (F : Nat → List Int) : Prop :=
  n ≤ 9223372036854775807 ∧ ((n = 0 ∧ ∃ a c, s = .slice a 0 c) ∨ ∃ b off cap, s = .slice (some ⟨b, off, none⟩) n cap ∧ b < w.heap.size ∧ ∀ k, k < n → ∃ u, w.cell? ⟨b, off + k, none⟩ = some u ∧ InZ w u (F k))
theorem okWide_array {P : Program} {w : World} {r : Reach} {base : Nat} {t : TypeId} {v : Value} {n : Nat} {e : TypeId} (ht : P.underlying t = some (.array n e)) (h : Value.okWide P w r base t v) : ∃ cs, v = .agg cs ∧ cs.size = P.cellsOf t := by
  simp only [Value.okWide, ht] at h
  obtain ⟨cs, h1, h2, _⟩ := h
  exact ⟨cs, h1, h2⟩
section
variable {H : Type} {enc : TypeId × Value → H} {W : World} {base : Nat} {held : Bool}
set_option maxRecDepth 100000 in
theorem open_zs {fuel : Nat} {s : Value} {x : DataW H × List MemPlace} (h : DataW.trod enc Try.prog W base (fun _ => true) held fuel 25 [s] = some x) : ∃ zs, InZ W s zs := by
  rcases open_slice1 Try.underlying25 int64Cells h with ⟨hcs, _⟩ | ⟨a, len, cap, m, n, V, D, Pl, hcs, hb, hl, hm, hmm, hx, hi⟩
  · simp at hcs
    exact ⟨[], by simp, by simp, .inl ⟨none, 0, hcs, rfl⟩⟩
  · simp at hcs
    subst hcs
    simp at hmm
    subst hmm
    have hm' : m ≤ 9223372036854775807 := by unfold maxLen at hm; exact hm
    by_cases h0 : len = 0
    · subst h0
      exact ⟨[], by simp, by simp, .inl ⟨_, _, rfl, rfl⟩⟩
    · have cell : ∀ i, i < m → ∃ y : Int, WF y ∧ W.cell? (a.add i) = some (.int .i64 y) := fun i him => by
        obtain ⟨hc, ht⟩ := hi i him
        obtain ⟨k, hk, _, wk⟩ := DataW.trod_int Try.underlying2 ht
        simp at hk
        exact ⟨k, wk, by rw [hc, hk]⟩
      obtain ⟨F, hF⟩ := choose_lt (α := Int) cell
      obtain ⟨b, off, spot⟩ := a
      have hc0 := (hF 0 (by omega)).2
      have hspot : spot = none := by simpa [Addr.add] using World.cell?_spot hc0
      subst hspot
      refine ⟨(List.range len).map F, ?_, by simp; omega, .inr ⟨b, off, m, by simp, ?_, ?_⟩⟩
      · intro y hy
        obtain ⟨i, hi', rfl⟩ := List.mem_map.1 hy
        exact (hF i (by have := List.mem_range.1 hi'; omega)).1
      · exact block_lt_of_cell hc0
      · intro k hk
        simp at hk
        have e : ((List.range len).map F)[k]?.getD 0 = F k := by simp [hk]
        rw [e]
        have h1 := (hF k (by omega)).2
        rw [add_at] at h1
        exact h1
set_option maxRecDepth 100000 in
theorem open_ints64 {r : Reach} {b0 : Nat} {v : Value} {d : DataW H} {p : List MemPlace} (hv : Value.okWide Try.prog W r b0 25 v) (h : DataW.Trod enc Try.prog W base (fun _ => true) held 25 v d p) : ∃ zs, InZ W v zs := by
  obtain ⟨a, len, cap, rfl⟩ := okWide_slice Try.underlying25 hv
  obtain ⟨fuel, hf⟩ := h
  exact open_zs hf
set_option maxRecDepth 100000 in
theorem open_blocks {r : Reach} {b0 : Nat} {v : Value} {d : DataW H} {p : List MemPlace} (hv : Value.okWide Try.prog W r b0 22 v) (h : DataW.Trod enc Try.prog W base (fun _ => true) held 22 v d p) : ∃ bs, InB W v bs := by
  obtain ⟨a, len, cap, rfl⟩ := okWide_slice Try.underlying22 hv
  obtain ⟨fuel, hf⟩ := h
  exact open_arrs hf
theorem sliceCells : Try.prog.cellsOf 25 = 1 := by kernel_rfl
set_option maxRecDepth 100000 in
theorem open_rows {r : Reach} {b0 : Nat} {v : Value} {d : DataW H} {p : List MemPlace} (hv : Value.okWide Try.prog W r b0 46 v) (h : DataW.Trod enc Try.prog W base (fun _ => true) held 46 v d p) : ∃ n F, InSS W v n F := by
  obtain ⟨A0, L0, C0, rfl⟩ := okWide_slice Try.underlying46 hv
  obtain ⟨fuel, hf⟩ := h
  have hf' : DataW.trod enc Try.prog W base (fun _ => true) held fuel 46 [.slice A0 L0 C0] = some (d, p) := hf
  rcases open_slice1 Try.underlying46 sliceCells hf' with ⟨hcs, _⟩ | ⟨a, len, cap, m, n, V, D, Pl, hcs, hb, hl, hm, hmm, hx, hi⟩
  · simp at hcs
    obtain ⟨rfl, rfl, rfl⟩ := hcs
    exact ⟨0, fun _ => [], by omega, .inl ⟨rfl, _, _, rfl⟩⟩
  · simp at hcs
    obtain ⟨e1, e2, e3⟩ := hcs
    subst e1
    subst e2
    subst e3
    simp at hmm
    subst hmm
    have hm' : m ≤ 9223372036854775807 := by unfold maxLen at hm; exact hm
    by_cases h0 : L0 = 0
    · subst h0
      exact ⟨0, fun _ => [], by omega, .inl ⟨rfl, _, _, rfl⟩⟩
    · have cell : ∀ i, i < m → ∃ y : List Int, ∃ u, W.cell? (a.add i) = some u ∧ InZ W u y := fun i him => by
        obtain ⟨hc, ht⟩ := hi i him
        obtain ⟨zs, hz⟩ := open_zs ht
        exact ⟨zs, _, hc, hz⟩
      obtain ⟨F, hF⟩ := choose_lt (α := List Int) cell
      obtain ⟨b, off, spot⟩ := a
      obtain ⟨u0, hc0, _⟩ := hF 0 (by omega)
      have hspot : spot = none := by simpa [Addr.add] using World.cell?_spot hc0
      subst hspot
      refine ⟨L0, F, by omega, .inr ⟨b, off, m, rfl, block_lt_of_cell hc0, fun k hk => ?_⟩⟩
      obtain ⟨u, h1, h2⟩ := hF k (by omega)
      rw [add_at] at h1
      exact ⟨u, h1, h2⟩
set_option maxRecDepth 100000 in
theorem open_blk {r : Reach} {b0 : Nat} {v : Value} {d : DataW H} {p : List MemPlace} (hv : Value.okWide Try.prog W r b0 70 v) (h : DataW.Trod enc Try.prog W base (fun _ => true) held 70 v d p) : ∃ x, v = bv x ∧ WFB x := by
  obtain ⟨cs, rfl, hsz⟩ := okWide_array Try.underlying70 hv
  obtain ⟨fuel, hf⟩ := h
  obtain ⟨a, b, c, e, wa, wb, wc⟩ := open_arr3 hf
  have : cs.toList = [.int .i64 a, .int .i64 b, .int .i64 c] := e
  refine ⟨⟨a, b, c⟩, ?_, wa, wb, wc⟩
  unfold bv
  rw [← this]
end
end Go.Proofs.Ytoicdfdfajfopaa

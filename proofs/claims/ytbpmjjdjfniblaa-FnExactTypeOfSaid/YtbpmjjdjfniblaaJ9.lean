
/- The contract of slices.Sort, laid at []int64. The contract of slices.Reverse, laid at []int64. impl.typeFrom. impl.typeFrom: the type of two points. TypeOf: the program's answer. What DoubleSystem answers: plain. Renumbered systems, and systems of blocks in any order: plain. The model's l01Order. The model's cycles. The outline's CyclesOf answers as the plain function cyF. -/
import Derived.Test.YtbpmjjdjfniblaaJ8
import Derived.Shelf.SortM.Plain
import Derived.Ground.SlgmProg
import Derived.Test.YtbpmjjdjfniblaaProg
import Derived.Shelf.SlicesG.Reverse
import Derived.Ground.SlgnProg
import Derived.Shelf.SortM.SortNone
import Derived.Lib.OwnBridge
namespace Go.Proofs
open Go.Shelf
def Try.sortI_ren : Go.Shelf.Ren := ⟨fun | 5 => 101 | 8 => 108 | 7 => 120 | 19 => 133 | 20 => 134 | 10 => 137 | 11 => 138 | 12 => 139 | 13 => 140 | 14 => 141 | 15 => 142 | 16 => 143 | 17 => 144 | 18 => 145 | 30 => 163 | 31 => 151 | 32 => 152 | 33 => 164 | 34 => 165 | 35 => 135 | 40 => 172 | n => n, fun | 23 => 27 | 25 => 2 | 3 => 3 | 32 => 111 | 22 => 27 | 0 => 0 | 44 => 136 | 46 => 87 | 4 => 4 | 36 => 129 | 35 => 128 | 41 => 133 | 5 => 5 | 9 => 9 | 53 => 146 | 57 => 150 | 63 => 165 | 64 => 166 | n => n, fun | n => n⟩
theorem Try.sortI : Go.Proofs.SlLaysM.n5 Try.prog Try.sortI_ren := {
  mixed := by kernel_rfl
  f5 := ⟨Try.f101.name, by decide, Try.func101.trans (congrArg some (by kernel_rfl))⟩
  f7 := ⟨Try.f120.name, by decide, Try.func120.trans (congrArg some (by kernel_rfl))⟩
  f8 := Try.func108.trans (congrArg some (by kernel_rfl))
  f10 := ⟨Try.f137.name, by decide, Try.func137.trans (congrArg some (by kernel_rfl))⟩
  f11 := ⟨Try.f138.name, by decide, Try.func138.trans (congrArg some (by kernel_rfl))⟩
  f12 := ⟨Try.f139.name, by decide, Try.func139.trans (congrArg some (by kernel_rfl))⟩
  f13 := ⟨Try.f140.name, by decide, Try.func140.trans (congrArg some (by kernel_rfl))⟩
  f14 := ⟨Try.f141.name, by decide, Try.func141.trans (congrArg some (by kernel_rfl))⟩
  f15 := ⟨Try.f142.name, by decide, Try.func142.trans (congrArg some (by kernel_rfl))⟩
  f16 := ⟨Try.f143.name, by decide, Try.func143.trans (congrArg some (by kernel_rfl))⟩
  f17 := ⟨Try.f144.name, by decide, Try.func144.trans (congrArg some (by kernel_rfl))⟩
  f18 := ⟨Try.f145.name, by decide, Try.func145.trans (congrArg some (by kernel_rfl))⟩
  f19 := Try.func133.trans (congrArg some (by kernel_rfl))
  f20 := Try.func134.trans (congrArg some (by kernel_rfl))
  f30 := ⟨Try.f163.name, by decide, Try.func163.trans (congrArg some (by kernel_rfl))⟩
  f31 := Try.func151.trans (congrArg some (by kernel_rfl))
  f32 := Try.func152.trans (congrArg some (by kernel_rfl))
  f33 := ⟨Try.f164.name, by decide, Try.func164.trans (congrArg some (by kernel_rfl))⟩
  f34 := ⟨Try.f165.name, by decide, Try.func165.trans (congrArg some (by kernel_rfl))⟩
  f35 := ⟨Try.f135.name, by decide, Try.func135.trans (congrArg some (by kernel_rfl))⟩
  f40 := ⟨Try.f172.name, by decide, Try.func172.trans (congrArg some (by kernel_rfl))⟩
  t0 := Try.underlying0
  a0 := Try.isAgg0
  z0 := Try.sizeOf0
  v0 := Try.zeroValue0
  t3 := Try.underlying3
  a3 := Try.isAgg3
  z3 := Try.sizeOf3
  v3 := Try.zeroValue3
  t4 := Try.underlying4
  a4 := Try.isAgg4
  z4 := Try.sizeOf4
  v4 := Try.zeroValue4
  t5 := Try.underlying5
  a5 := Try.isAgg5
  z5 := Try.sizeOf5
  v5 := Try.zeroValue5
  t9 := Try.underlying9
  a9 := Try.isAgg9
  z9 := Try.sizeOf9
  v9 := Try.zeroValue9
  t22 := Try.underlying27
  a22 := Try.isAgg27
  z22 := Try.sizeOf27
  v22 := Try.zeroValue27
  t23 := Try.underlying27
  a23 := Try.isAgg27
  z23 := Try.sizeOf27
  v23 := Try.zeroValue27
  t25 := Try.underlying2
  a25 := Try.isAgg2
  z25 := Try.sizeOf2
  v25 := Try.zeroValue2
  t32 := Try.underlying111
  a32 := Try.isAgg111
  z32 := Try.sizeOf111
  v32 := Try.zeroValue111
  t35 := Try.underlying128
  a35 := Try.isAgg128
  z35 := Try.sizeOf128
  v35 := Try.zeroValue128
  t36 := Try.underlying129
  a36 := Try.isAgg129
  z36 := Try.sizeOf129
  v36 := Try.zeroValue129
  t41 := Try.underlying133
  a41 := Try.isAgg133
  z41 := Try.sizeOf133
  v41 := Try.zeroValue133
  t44 := Try.underlying136
  a44 := Try.isAgg136
  z44 := Try.sizeOf136
  v44 := Try.zeroValue136
  t46 := Try.underlying87
  a46 := Try.isAgg87
  z46 := Try.sizeOf87
  v46 := Try.zeroValue87
  t53 := Try.underlying146
  a53 := Try.isAgg146
  z53 := Try.sizeOf146
  v53 := Try.zeroValue146
  t57 := Try.underlying150
  a57 := Try.isAgg150
  z57 := Try.sizeOf150
  v57 := Try.zeroValue150
  t63 := Try.underlying165
  a63 := Try.isAgg165
  z63 := Try.sizeOf165
  v63 := Try.zeroValue165
  t64 := Try.underlying166
  a64 := Try.isAgg166
  z64 := Try.sizeOf166
  v64 := Try.zeroValue166 }
end Go.Proofs

namespace Go.Proofs
open Go.Shelf
def Try.revI_ren : Go.Shelf.Ren := ⟨fun | 35 => 102 | n => n, fun | 22 => 27 | 23 => 2 | 3 => 3 | 4 => 4 | 0 => 0 | n => n, fun | n => n⟩
theorem Try.revI : Go.Proofs.SlLaysN.n35 Try.prog Try.revI_ren := {
  mixed := by kernel_rfl
  f35 := ⟨Try.f102.name, by decide, Try.func102.trans (congrArg some (by kernel_rfl))⟩
  t0 := Try.underlying0
  a0 := Try.isAgg0
  z0 := Try.sizeOf0
  v0 := Try.zeroValue0
  t3 := Try.underlying3
  a3 := Try.isAgg3
  z3 := Try.sizeOf3
  v3 := Try.zeroValue3
  t4 := Try.underlying4
  a4 := Try.isAgg4
  z4 := Try.sizeOf4
  v4 := Try.zeroValue4
  t22 := Try.underlying27
  a22 := Try.isAgg27
  z22 := Try.sizeOf27
  v22 := Try.zeroValue27
  t23 := Try.underlying2
  a23 := Try.isAgg2
  z23 := Try.sizeOf2
  v23 := Try.zeroValue2 }
end Go.Proofs

namespace Go.Proofs.Ytbpmjjdjfniblaa
open Go.RowKit Go.Maps Go.Sort Go.Shelf
theorem grownBy_putT {w : World} {g n : Nat} {os : Array Obj} (F : Array Int) : w.grownBy (grow (putRow (Value.int .i64) (Sort.ahead w n) g 0 F) os) (some g) := by
  refine ⟨rfl, rfl, rfl, by simp, fun k hk hne => ?_⟩
  rw [heap_grow_old _ _ (by simpa using hk)]
  have : g ≠ k := fun e => hne (by rw [e])
  simp [putRow, mapBlock, Sort.ahead, Array.getElem?_modify, this]
theorem grownBy_growT (w : World) (os : Array Obj) : w.grownBy (grow w os) none :=
  ⟨rfl, rfl, rfl, by simp, fun k hk _ => heap_grow_old _ _ hk⟩
theorem OwnJ.put {w : World} {base g n cap q : Nat} {os : Array Obj} {zs ys : List Int} (h : OwnJ w base (.slice (some ⟨g, 0, none⟩) n cap) zs) (hy : ys.length = zs.length) :
    OwnJ (grow (putRow (Value.int .i64) (Sort.ahead w q) g 0 ys.toArray) os) base (.slice (some ⟨g, 0, none⟩) n cap) ys ∧ w.grownBy (grow (putRow (Value.int .i64) (Sort.ahead w q) g 0 ys.toArray) os) (some g) := by
  have hn : n = zs.length := by
    rcases h.2 with ⟨e, _⟩ | ⟨g', cap', cur, e, _⟩
    · cases e
    · injection e
  subst hn
  refine ⟨?_, grownBy_putT _⟩
  have h1 := Lib.ownsRow_putRow (q := q) (k := zs.length) h hy (Nat.le_refl _)
  rw [List.take_of_length_le (Nat.le_of_eq hy)] at h1
  refine OwnJ.kept ?_ (grownBy_growT _ os) (by simp)
  unfold OwnJ
  rw [hy]
  exact h1
theorem OwnJ.holdsT {w : World} {base g n cap : Nat} {zs : List Int} (h : OwnJ w base (.slice (some ⟨g, 0, none⟩) n cap) zs) : Holds (Value.int .i64) w g 0 zs.toArray ∧ g < w.heap.size ∧ n = zs.length := by
  obtain ⟨_, h | ⟨g', cap', cur, e, hb, hcur, hn, hc, hsz, hx⟩⟩ := h
  · simp at h
  · simp at e
    obtain ⟨rfl, rfl, rfl⟩ := e
    refine ⟨fun j hj => ?_, (Array.getElem?_eq_some_iff.1 hcur).1, rfl⟩
    have hj' : j < zs.length := by simpa using hj
    have e : (zs.map (Value.int .i64))[j]? = some (.int .i64 zs[j]) := by simp [hj']
    rw [← hx, List.getElem?_take_of_lt (by omega)] at e
    rw [Nat.zero_add]
    refine ⟨?_, by simp [World.frozen?, hcur]⟩
    rw [getElem!_pos zs.toArray j hj]
    simp [World.cell?, hcur]
    simpa using e
theorem OwnJ.baseT {w : World} {b b' : Nat} {u : Value} {zs : List Int} (h : OwnJ w b u zs) (hb : b' ≤ b) : OwnJ w b' u zs := ⟨h.1, by
  rcases h.2 with h | ⟨g, cap, cur, e, hb', hr⟩
  · exact .inl h
  · exact .inr ⟨g, cap, cur, e, Nat.le_trans hb hb', hr⟩⟩
theorem sortJ_any (base : Nat) (u : Value) (zs : List Int) (w : World) (h : OwnJ w base u zs) (hl : zs.length ≤ 3300000) :
    Calls Try.prog 101 #[u] w (fun e w' => e = .returned (.tuple #[]) ∧ w.grownBy w' u.ownBlock ∧ OwnJ w' base u (ascL zs)) := by
  rcases h.2 with ⟨rfl, h0⟩ | ⟨g, cap, cur, rfl, _⟩
  · have e0 : zs = [] := List.length_eq_zero_iff.1 h0
    subst e0
    refine (AnyM.slices_Sort_int_none Try.sortI _ _ _).mono ?_
    rintro e w' ⟨rfl, rfl⟩
    exact ⟨rfl, only_refl _ _, by simpa [ascL] using OwnJ.nil _ _⟩
  · obtain ⟨hH, hlt, _⟩ := h.holdsT
    refine (AnyM.slices_Sort_int Try.sortI g 0 cap zs w hH hlt (by omega)).mono ?_
    rintro e w' ⟨rfl, n, os, hw⟩
    obtain ⟨h1, h2⟩ := h.put (q := n) (os := os) (ascL_len zs)
    subst hw
    exact ⟨rfl, h2, h1⟩
theorem revJ_any (base : Nat) (u : Value) (zs : List Int) (w : World) (h : OwnJ w base u zs) (hl : zs.length ≤ 3300000) :
    Calls Try.prog 102 #[u] w (fun e w' => e = .returned (.tuple #[]) ∧ w.grownBy w' u.ownBlock ∧ OwnJ w' base u zs.reverse) := by
  rcases h.2 with ⟨rfl, h0⟩ | ⟨g, cap, cur, rfl, _⟩
  · have e0 : zs = [] := List.length_eq_zero_iff.1 h0
    subst e0
    refine (AnyG.slices_Reverse_int_empty Try.revI _ _ _).mono ?_
    rintro e w' ⟨rfl, rfl⟩
    exact ⟨rfl, only_refl _ _, OwnJ.nil _ _⟩
  · obtain ⟨hH, hlt, _⟩ := h.holdsT
    refine (AnyG.slices_Reverse_int Try.revI g 0 cap zs w hH (by omega)).mono ?_
    rintro e w' ⟨rfl, n, hw⟩
    obtain ⟨h1, h2⟩ := h.put (q := n) (os := #[]) (ys := zs.reverse) (by simp)
    have e : w' = grow (putRow (Value.int .i64) (Sort.ahead w n) g 0 zs.reverse.toArray) #[] := by rw [hw]; simp only [grow, Array.append_empty]
    subst e
    exact ⟨rfl, h2, h1⟩
end Go.Proofs.Ytbpmjjdjfniblaa

namespace Go.Proofs.Ytbpmjjdjfniblaa
open Go.RowKit Go.Maps
theorem ResSS.cells {w : World} {lo : Nat} {u : Value} {L : List (List Int)} (h : ResSS w lo u L.length (rowsF L)) : L = [] ∧ (∃ a c, u = .slice a 0 c) ∨ ∃ G cap gs caps, u = .slice (some ⟨G, 0, none⟩) L.length cap ∧ lo ≤ G ∧ SSR w lo G gs caps L.length (rowsF L) := by
  rcases h with ⟨h0, a, c, e⟩ | ⟨G, cap, gs, caps, e, h1, h2⟩
  · exact .inl ⟨List.length_eq_zero_iff.1 h0, a, c, e⟩
  · exact .inr ⟨G, cap, gs, caps, e, h1, h2⟩
set_option maxRecDepth 100000 in
set_option maxHeartbeats 2000000 in
theorem typeFrom_any (G lo : Nat) (tgs tcaps : Nat → Nat) (n c : Nat) (bs : List Blk) (a b : Nat) (w : World) (h : SSR w lo G tgs tcaps n (rowT n (tabN bs))) (hi : isSysImpl (n : Int) bs = true) (hf : fullB (n : Int) bs = true) (ha : a < n) (hb : b < n) (hab : a ≠ b) :
    Calls Try.prog 70 #[.slice (some ⟨G, 0, none⟩) n c, .int .i64 (a : Int), .int .i64 (b : Int)] w (fun e w' => ∃ u, e = .returned u ∧ OwnJ w' w.heap.size u (typL (cyS bs a b n)) ∧ Below w.heap.size w w') := by
  have HC := Lib.hid (cyclesFrom_any G lo tgs tcaps n c bs a b w h hi hf ha hb hab)
  have hl15 := cyS_len (bs := bs) (a := a) (b := b) n
  have hn15 := (sys_size hi).2.1
  have hlr := cyS_rows hi hf ha hb hab n (Nat.le_refl _)
  obtain ⟨L, hL⟩ : ∃ L, L = cyS bs a b n := ⟨_, rfl⟩
  rw [← hL] at HC hl15 hlr ⊢
  have hL15 : L.length ≤ 15 := by omega
  have HR := Lib.hid hlr
  clear h hi hf ha hb hab hL hl15 hn15 hlr
  obtain ⟨W0, rfl⟩ : ∃ W0, W0 = w := ⟨_, rfl⟩
  go_enter Try.func70, Try.ntmps70
  go_wp2_with fail
  refine HC.out.mono ?_
  rintro e w1 ⟨u, rfl, hr, hb1⟩
  have hz1 := hb1.size
  rcases hr.cells with ⟨rfl, a0, c0, rfl⟩ | ⟨G1, cap1, gs, caps, rfl, hlo, hS⟩
  · clear HC hr hL15 HR
    go_wp2_with fail
    go_loopw [7, 15] (fun o i wr => i = .int .i64 0 ∧ o = .slice none 0 0 ∧ wr = w1) (fun _ _ _ => 0)
    case atStart => exact ⟨rfl, rfl, rfl⟩
    case round =>
      obtain ⟨rfl, rfl, rfl⟩ := hrel
      go_wp2_with fail
      refine (sortJ_any W0.heap.size _ [] _ (OwnJ.nil _ _) (Nat.zero_le _)).mono ?_
      rintro e w2 ⟨rfl, hg2, hO2⟩
      go_wp2_with fail
      refine (revJ_any W0.heap.size _ (ascL []) _ hO2 (by rw [ascL_len]; exact Nat.zero_le _)).mono ?_
      rintro e w3 ⟨rfl, hg3, hO3⟩
      go_wp2
      go_ret
      exact ⟨_, rfl, hO3, (hb1.grown hg2 (by omega) (fun r e => by cases e)).grown hg3 (by have := hg2.size; omega) (fun r e => by cases e)⟩
  · obtain ⟨m, hm⟩ : ∃ m, m = L.length := ⟨_, rfl⟩
    have HCE := Lib.hid fun k (hk : k < m) => hS.cell k (by omega)
    have HRL := Lib.hid fun k (hk : k < m) => show (rowsF L k).length ≤ 15 from HR.out _ (by unfold rowsF; rw [List.getElem?_eq_getElem (by omega)]; exact List.getElem_mem _)
    have HSL := Lib.hid fun k (hk : k < m) => lensL_take (L := L) (k := k) (by omega)
    have hlt1 := hS.lt
    have HLL := Lib.hid fun k => show (lensL (L.take k)).length ≤ 15 from by rw [lensL_len, List.length_take]; omega
    have HFU := Lib.hid (show lensL (L.take m) = lensL L by rw [hm, List.take_length])
    have hm15 : m ≤ 15 := by omega
    rw [← hm]
    clear HC hr hL15 HR hS hm
    have HB1 := Lib.hid hb1
    clear hb1
    go_wp2_with fail
    go_loopw [7, 15] (fun o i wr => ∃ k : Nat, k ≤ m ∧ i = .int .i64 k ∧ Below w1.heap.size w1 wr ∧ OwnJ wr w1.heap.size o (lensL (L.take k)) ∧ ∃ a n c, o = .slice a n c) (fun _ i _ => m - (intOf i).toNat)
    case atStart => exact ⟨0, Nat.zero_le _, rfl, Below.refl _ _, OwnJ.nil _ _, _, _, _, rfl⟩
    case round =>
      obtain ⟨k, hk, rfl, hB, hO, hform⟩ := hrel
      have hz := hB.size
      obtain ⟨a3, n3, c3, rfl⟩ := hform
      have HO := Lib.hid hO
      have HB := Lib.hid hB
      by_cases hkl : k < m
      · have q := (hB.cell (p := ⟨G1, k, none⟩) hlt1).trans (HCE.out k hkl)
        have hS := HSL.out k hkl
        have hl := HLL.out k
        have hrl := HRL.out k hkl
        obtain ⟨z, hz'⟩ : ∃ z, z = (rowsF L k).length := ⟨_, rfl⟩
        rw [← hz'] at q hS hrl
        have HS := Lib.hid hS
        have HL := Lib.hid hl
        clear hB hO hS hz' hl
        go_wp2_with (at_builtin; refine wpList_append_int rfl _ _ rfl w1.heap.size _ (lensL (L.take k)) rfl (HO.out.below ((Below.refl _ _).alloc (Nat.le_refl _) _) (Nat.le_refl _)) _ _ (z : Int) rfl (by simp [go_sem]) (by have := HL.out; omega) (by simp; omega) ?_; intro g' cap' w4 hO4 hg4)
        have hrow := HO.out.row
        have hgo : wr.grownBy w4 (Value.slice a3 n3 c3).ownBlock := ⟨hg4.os, hg4.tape, hg4.output, by have := hg4.size; simp at this; omega, fun i hi hne => by
          rw [hg4.block i (by simp; omega) hne, Below.heap_alloc _ _ _ hi]⟩
        clear hg4
        go_roundw
        case rel => exact ⟨k + 1, by omega, by go_num, HB.out.grown hgo hz (fun j e => hrow j e), by rw [HS.out]; exact hO4, _, _, _, rfl⟩
        case measure => simp [intOf]; omega
      · have e : k = m := by omega
        subst e
        have hO5 := HO.out
        rw [HFU.out] at hO5
        have HO5 := Lib.hid hO5
        have hrow := HO5.out.row
        have hlf : (lensL L).length ≤ 15 := by rw [← HFU.out]; exact HLL.out _
        have HLF := Lib.hid hlf
        clear hB hO hO5 hrow hlf
        go_wp2_with fail
        refine (sortJ_any w1.heap.size _ (lensL L) _ HO5.out (by have := HLF.out; omega)).mono ?_
        rintro e w2 ⟨rfl, hg2, hO2⟩
        have hz2 := hg2.size
        go_wp2_with fail
        refine (revJ_any w1.heap.size _ (ascL (lensL L)) _ hO2 (by rw [ascL_len]; have := HLF.out; omega)).mono ?_
        rintro e w3 ⟨rfl, hg3, hO3⟩
        go_wp2
        go_ret
        have hrow := HO5.out.row
        exact ⟨_, rfl, hO3.baseT hz1, HB1.out.trans ((((HB.out).grown hg2 hz (fun r e => hrow r e)).grown hg3 (by omega) (fun r e => hrow r e)).mono hz1)⟩
end Go.Proofs.Ytbpmjjdjfniblaa

namespace Go.Proofs.Ytbpmjjdjfniblaa
open Go.RowKit Go.Maps
theorem OwnJ.formT {W : World} {base : Nat} {u : Value} {zs : List Int} (h : OwnJ W base u zs) : ∃ a c, u = .slice a zs.length c := by
  rcases h.2 with ⟨e, h0⟩ | ⟨g, cap, cur, e, _⟩
  · exact ⟨none, 0, by rw [e, h0]⟩
  · exact ⟨_, _, e⟩
theorem tyF_len (v : Int) (bs : List Blk) (a b : Int) : (tyF v bs a b).1.length ≤ 15 := by
  unfold tyF
  split
  · rename_i hc
    obtain ⟨hi, _, _, _, _⟩ := cyCode_good hc
    obtain ⟨h3, h15, _⟩ := sys_size hi
    have := cyS_len (bs := bs) (a := a.toNat) (b := b.toNat) v.toNat
    show (typL (cyS bs a.toNat b.toNat v.toNat)).length ≤ 15
    rw [typL_len]
    omega
  · exact Nat.zero_le _
set_option maxRecDepth 100000 in
set_option maxHeartbeats 2000000 in
theorem TypeOf_any (v : Int) (s : Value) (bs : List Blk) (a b : Int) (w : World) (h : SB w s bs) :
    Calls Try.prog 33 #[.agg #[.int .i64 v, s], .int .i64 a, .int .i64 b] w (RJ (tyF v bs a b) w) := by
  have hb0 : Below w.heap.size w (w.alloc (.cells #[.int .i64 v, s] 34)) := (Below.refl _ _).alloc (Nat.le_refl _) _
  have HC := Lib.hid (cyclesCode_any v s bs a b _ (h.below hb0 (Nat.le_refl _)))
  have HS := Lib.hid h
  obtain ⟨a0, c0, rfl⟩ := h.slice
  clear h hb0
  by_cases hc : cyCode v bs a b = 0
  · obtain ⟨hi, hf, ha, hb, hab⟩ := cyCode_good hc
    obtain ⟨h3, h15, _⟩ := sys_size hi
    have hval : tyF v bs a b = (typL (cyS bs a.toNat b.toNat v.toNat), 0) := by unfold tyF; rw [if_pos hc]
    rw [hc] at HC
    obtain ⟨n, rfl⟩ := Int.eq_ofNat_of_zero_le (show 0 ≤ v by omega)
    obtain ⟨na, rfl⟩ := Int.eq_ofNat_of_zero_le ha.1
    obtain ⟨nb, rfl⟩ := Int.eq_ofNat_of_zero_le hb.1
    simp only [Int.toNat_natCast] at hval
    rw [hval]
    have HT := Lib.hid fun W (hb : Below w.heap.size w W) => thirdsOf_any n _ bs W (HS.out.below hb (Nat.le_refl _)) hi
    have HCY := Lib.hid fun G lo tgs tcaps W (hS : SSR W lo G tgs tcaps n (rowT n (tabN bs))) => typeFrom_any G lo tgs tcaps n n bs na nb W hS hi hf (by omega) (by omega) (by omega)
    obtain ⟨L, hL⟩ : ∃ L, L = typL (cyS bs na nb n) := ⟨_, rfl⟩
    rw [← hL] at HCY ⊢
    clear hc hi hf hval hL ha hb hab
    go_enter Try.func33, Try.ntmps33
    go_wp2_with fail
    refine HC.out.mono ?_
    rintro e w1 ⟨rfl, hb1⟩
    have d0 := cell_new hb1 0 rfl
    have d1 := cell_new hb1 1 rfl
    have hbw := below_new hb1
    clear hb1
    go_wp2_with fail
    refine (HT.out _ hbw).mono ?_
    rintro e w2 ⟨G, gs, caps, rfl, hG, hb2, hS⟩
    have hB2 := hbw.trans (hb2.mono hbw.size)
    have hz2 := hB2.size
    go_wp2_with fail
    refine (HCY.out G _ gs caps w2 hS).mono ?_
    rintro e w3 ⟨u3, rfl, hr3, hb3⟩
    obtain ⟨a3, c3, hu3⟩ := hr3.formT
    subst hu3
    have hB3 := hB2.trans (hb3.mono hz2)
    clear hS hb2 hb3
    go_wp2
    exact bodyPost_ret (v := .tuple #[.slice a3 L.length c3, .int .i64 0]) (by simp [results, Try.results33, go_sem, *]) rfl ⟨_, rfl, hr3.baseT hz2, hB3⟩
  · have hval : tyF v bs a b = ([], cyCode v bs a b) := by unfold tyF; rw [if_neg hc]
    rw [hval]
    obtain ⟨κ, hκ⟩ : ∃ κ, κ = cyCode v bs a b := ⟨_, rfl⟩
    rw [← hκ] at HC hc ⊢
    have hne : (κ != 0) = true := by simpa using hc
    clear hκ hval hc
    go_enter Try.func33, Try.ntmps33
    go_wp2_with fail
    refine HC.out.mono ?_
    rintro e w1 ⟨rfl, hb1⟩
    have hbw := below_new hb1
    clear hb1
    go_wp2
    exact bodyPost_ret (v := .tuple #[.slice none 0 0, .int .i64 κ]) (by simp [results, Try.results33, go_sem, *]) rfl ⟨_, rfl, OwnJ.nil _ _, hbw⟩
end Go.Proofs.Ytbpmjjdjfniblaa

namespace Go.Proofs.Ytbpmjjdjfniblaa
def dblB (v : Int) (x : Blk) : List Blk := [⟨x.a, v + x.b, v + x.c⟩, ⟨x.b, v + x.a, v + x.c⟩, ⟨x.c, v + x.a, v + x.b⟩]
def dblP (v : Int) (k : Nat) : List Blk := (List.range k).map fun (a : Nat) => ⟨(a : Int), v + (a : Int), 2 * v⟩
theorem dblP_succ (v : Int) (k : Nat) : dblP v (k + 1) = dblP v k ++ [⟨(k : Int), v + (k : Int), 2 * v⟩] := by simp [dblP, List.range_succ]
theorem dblP_len (v : Int) (k : Nat) : (dblP v k).length = k := by simp [dblP]
def dblA (v : Int) (bs : List Blk) (k : Nat) : List Blk := bs ++ (bs.take k).flatMap (dblB v)
theorem dblA_succ {v : Int} {bs : List Blk} {k : Nat} (hk : k < bs.length) {x : Blk} (hx : bs[k]? = some x) : dblA v bs (k + 1) = dblA v bs k ++ dblB v x := by
  have e : bs[k] = x := by
    rw [List.getElem?_eq_getElem hk] at hx
    simpa using hx
  unfold dblA
  rw [List.take_succ_eq_append_getElem hk, e, List.flatMap_append, List.append_assoc]
  simp
theorem dblB_len (v : Int) : ∀ l : List Blk, (l.flatMap (dblB v)).length = 3 * l.length
  | [] => rfl
  | x :: r => by rw [List.flatMap_cons, List.length_append, dblB_len v r]; simp [dblB]; omega
theorem dblA_len (v : Int) (bs : List Blk) {k : Nat} (hk : k ≤ bs.length) : (dblA v bs k).length = bs.length + 3 * k := by
  unfold dblA
  rw [List.length_append, dblB_len, List.length_take, Nat.min_eq_left hk]
def dblL (v : Int) (bs : List Blk) : List Blk := dblA v bs bs.length ++ dblP v v.toNat
theorem dblL_len (v : Int) (bs : List Blk) : (dblL v bs).length = bs.length + 3 * bs.length + v.toNat := by
  unfold dblL
  rw [List.length_append, dblA_len v bs (Nat.le_refl _), dblP_len]
theorem dblL_mem {v : Int} (hv : 0 ≤ v) (hv15 : v ≤ 15) {bs : List Blk} (hg : ∀ x ∈ bs, goodB v x = true) : ∀ x ∈ dblL v bs, (0 ≤ x.a ∧ x.a ≤ 1000) ∧ (0 ≤ x.b ∧ x.b ≤ 1000) ∧ (0 ≤ x.c ∧ x.c ≤ 1000) := by
  intro x hx
  unfold dblL dblA at hx
  rw [List.take_length] at hx
  rcases List.mem_append.1 hx with hx | hx
  · rcases List.mem_append.1 hx with hx | hx
    · have := goodB_iff.1 (hg x hx); omega
    · obtain ⟨y, hy, hxy⟩ := List.mem_flatMap.1 hx
      have := goodB_iff.1 (hg y hy)
      simp only [dblB, List.mem_cons, List.not_mem_nil, or_false] at hxy
      rcases hxy with rfl | rfl | rfl <;> (dsimp only; omega)
  · obtain ⟨a, ha, rfl⟩ := List.mem_map.1 hx
    have := List.mem_range.1 ha
    dsimp only
    omega
/-- The smallest, the middle and the greatest of three. -/
def blk3 (a b c : Int) : Blk := ⟨min (min a b) c, a + b + c - min (min a b) c - max (max a b) c, max (max a b) c⟩
theorem blk3_of {a b c p q r : Int} (hp : p = min (min a b) c) (hr : r = max (max a b) c) (hq : q = a + b + c - p - r) : blk3 a b c = ⟨p, q, r⟩ := by
  unfold blk3
  rw [← hp, ← hr, ← hq]
end Go.Proofs.Ytbpmjjdjfniblaa

namespace Go.Proofs.Ytbpmjjdjfniblaa
/-- Each number is a point, and comes once. -/
def rnGo (v : Int) : List Int → List Int → Bool
  | _, [] => true
  | seen, a :: r => inP v a && !(decide (a ∈ seen)) && rnGo v (seen ++ [a]) r
def isRen (v : Int) (p : List Int) : Bool := decide ((p.length : Int) = v) && rnGo v [] p
theorem rnGo_in {v : Int} : ∀ {l seen : List Int}, rnGo v seen l = true → ∀ a ∈ l, inP v a = true
  | [], _, _, a, h => by cases h
  | b :: r, seen, h, a, ha => by
    simp only [rnGo, Bool.and_eq_true] at h
    rcases List.mem_cons.1 ha with rfl | ha
    · exact h.1.1
    · exact rnGo_in h.2 a ha
theorem rnGo_bad {v : Int} {a : Int} {r seen : List Int} (h : inP v a = false) : rnGo v seen (a :: r) = false := by simp [rnGo, h]
theorem rnGo_dup {v : Int} {a : Int} {r seen : List Int} (h : a ∈ seen) : rnGo v seen (a :: r) = false := by simp [rnGo, h]
theorem rnGo_next {v : Int} {a : Int} {r seen : List Int} (h : inP v a = true) (h2 : a ∉ seen) : rnGo v seen (a :: r) = rnGo v (seen ++ [a]) r := by simp [rnGo, h, h2]
def at0 (p : List Int) (a : Int) : Int := p[a.toNat]?.getD 0
def renB (p : List Int) (x : Blk) : Blk := blk3 (at0 p x.a) (at0 p x.b) (at0 p x.c)
/-- A system and a code: points, blocks, code. -/
def renF (v : Int) (bs : List Blk) (p : List Int) : Int × List Blk × Int :=
  if isSysImpl v bs then (if isRen v p then (v, sortB (bs.map (renB p)), 0) else (0, [], 2)) else (0, [], 1)
theorem renF_len (v : Int) (bs : List Blk) (p : List Int) : (renF v bs p).2.1.length ≤ bs.length := by
  unfold renF
  split
  · split
    · simp only [sortB_length, List.length_map]; exact Nat.le_refl _
    · simp
  · simp
theorem at0_in {v : Int} {p : List Int} (h : isRen v p = true) {a : Int} (h0 : 0 ≤ a) (h1 : a < v) : 0 ≤ at0 p a ∧ at0 p a < v := by
  unfold isRen at h
  simp only [Bool.and_eq_true, decide_eq_true_eq] at h
  have hl : a.toNat < p.length := by omega
  have := rnGo_in h.2 p[a.toNat] (List.getElem_mem hl)
  rw [inP] at this
  simp only [Bool.and_eq_true, decide_eq_true_eq] at this
  unfold at0
  rw [List.getElem?_eq_getElem hl]
  exact this
theorem blk3_in {v a b c : Int} (ha : 0 ≤ a ∧ a < v) (hb : 0 ≤ b ∧ b < v) (hc : 0 ≤ c ∧ c < v) : (0 ≤ (blk3 a b c).a ∧ (blk3 a b c).a < v) ∧ (0 ≤ (blk3 a b c).b ∧ (blk3 a b c).b < v) ∧ (0 ≤ (blk3 a b c).c ∧ (blk3 a b c).c < v) := by
  unfold blk3
  dsimp only
  omega
/-- The middle one. -/
theorem blk3_good {v a b c : Int} : goodB v (blk3 a b c) = true ↔ (0 ≤ a ∧ a < v) ∧ (0 ≤ b ∧ b < v) ∧ (0 ≤ c ∧ c < v) ∧ a ≠ b ∧ b ≠ c ∧ a ≠ c := by
  rw [goodB_iff]
  unfold blk3
  dsimp only
  omega
def b3 (x : Blk) : Blk := blk3 x.a x.b x.c
def sysOfF (v : Int) (bs : List Blk) : Int × List Blk × Int :=
  if decide (3 ≤ v) && decide (v ≤ 15) && decide (bs.length ≤ 35) && bs.all (fun x => goodB v (b3 x)) then
    (if shareGo [] (bs.map b3) then (0, [], 5) else (v, sortB (bs.map b3), 0))
  else (0, [], 2)
theorem sort3 (a b c : Int) : [a, b, c].mergeSort (fun x y => decide (x ≤ y)) = [(blk3 a b c).a, (blk3 a b c).b, (blk3 a b c).c] := by
  have hs : ([a, b, c].mergeSort (fun x y => decide (x ≤ y))).Pairwise (· ≤ ·) := by
    have := List.pairwise_mergeSort (le := fun x y : Int => decide (x ≤ y)) (fun x y z h1 h2 => by simp at *; omega) (fun x y => by simp; omega) [a, b, c]
    exact this.imp (by simp)
  have hp := List.mergeSort_perm [a, b, c] (fun x y : Int => decide (x ≤ y))
  have hs2 : [(blk3 a b c).a, (blk3 a b c).b, (blk3 a b c).c].Pairwise (· ≤ ·) := by
    unfold blk3
    simp
    omega
  have hp2 : [(blk3 a b c).a, (blk3 a b c).b, (blk3 a b c).c].Perm [a, b, c] := by
    unfold blk3
    dsimp only
    rw [List.perm_iff_count]
    intro x
    simp only [List.count_cons, List.count_nil, beq_iff_eq]
    by_cases h1 : a ≤ b <;> by_cases h2 : b ≤ c <;> by_cases h3 : a ≤ c <;> simp only [Int.min_def, Int.max_def, h1, h2, h3, if_true, if_false] <;> (try omega) <;> (repeat' split) <;> omega
  exact (hp.trans hp2.symm).eq_of_pairwise (fun x y _ _ h1 h2 => by omega) hs hs2
end Go.Proofs.Ytbpmjjdjfniblaa

namespace Go.Proofs.Ytbpmjjdjfniblaa
open Go.RowKit Go.Maps
theorem infoBoolT : (Try.prog.info? 4).map (fun i => (i.zero, i.size, i.bytes)) = some (some (.bool false), 1, 1) := by kernel_rfl
theorem mkBools (n : Nat) (hn : n ≤ 1100000) (W : World) : (Instr.makeSlice 101 (.int .i64 (n : Int)) (.int .i64 (n : Int))).run Try.prog W = .ok (.slice (some ⟨W.heap.size, 0, none⟩) n n) (W.alloc (.cells (madeCells #[.bool false] n) 4)) := by
  obtain ⟨i0, hi, hz0, hz1, hz2⟩ := info_parts infoBoolT
  have hr := run_make (P := Try.prog) W 101 4 i0 (.bool false) Try.underlying101 hi hz0 .i64 .i64 n n (by omega) (by omega) (by rw [hz2]; omega) (by omega)
  simp only [Int.toNat_natCast, hz1, Nat.mul_one] at hr
  exact hr
/-- A row of bools. -/
structure BoolsAt (w : World) (g n : Nat) (f : Nat → Bool) : Prop where
  lt : g < w.heap.size
  cell : ∀ q, q < n → w.cell? ⟨g, q, none⟩ = some (.bool (f q))
  free : ∀ o, w.frozen? ⟨g, o, none⟩ = false
theorem BoolsAt.made (w : World) (n : Nat) (T : TypeId) : BoolsAt (w.alloc (.cells (madeCells #[.bool false] n) T)) w.heap.size n (fun _ => false) := by
  refine ⟨by simp, fun k hk => ?_, fun o => by simp⟩
  rw [World.cell?_alloc_at _ _ _ _ rfl]
  simp [madeCells, hk, Nat.mod_one]
theorem BoolsAt.set {w : World} {g n : Nat} {f : Nat → Bool} (h : BoolsAt w g n f) {i : Nat} (hi : i < n) : BoolsAt (w.setCell ⟨g, i, none⟩ (.bool true)) g n (fun q => if q = i then true else f q) := by
  refine ⟨by simpa [World.setCell] using h.lt, fun q hq => ?_, fun o => by rw [World.frozen?_setCell]; exact h.free o⟩
  by_cases e : q = i
  · subst e
    rw [World.cell?_setCell_same' _ _ _ (by rw [h.cell q hq]; rfl)]
    simp
  · rw [World.cell?_setCell_other _ _ _ _ (by simp <;> omega), h.cell q hq, if_neg e]
theorem BoolsAt.congr {w : World} {g n : Nat} {f f' : Nat → Bool} (h : BoolsAt w g n f) (e : ∀ q, q < n → f q = f' q) : BoolsAt w g n f' := ⟨h.lt, fun q hq => by rw [← e q hq]; exact h.cell q hq, h.free⟩
theorem BoolsAt.kept {w w' : World} {g n : Nat} {f : Nat → Bool} {row : Option Nat} (h : BoolsAt w g n f) (hg : w.grownBy w' row) (hne : some g ≠ row) : BoolsAt w' g n f :=
  ⟨Nat.lt_of_lt_of_le h.lt hg.size, fun q hq => (World.cell?_of_block (w := w) (a := ⟨g, _, none⟩) (hg.block g h.lt hne)).trans (h.cell q hq), fun o => (World.frozen?_of_block (w := w) (a := ⟨g, o, none⟩) (hg.block g h.lt hne)).trans (h.free o)⟩
theorem take_snoc2 {l : List Int} {k : Nat} (h : k < l.length) : l.take (k + 1) = l.take k ++ [l[k]?.getD 0] := by
  rw [List.take_succ_eq_append_getElem h]; simp [h]
end Go.Proofs.Ytbpmjjdjfniblaa

namespace Go.Proofs.Ytbpmjjdjfniblaa
open Go.RowKit Go.Maps
theorem BoolsAt.below {w w' : World} {g n : Nat} {f : Nat → Bool} (h : BoolsAt w g n f) {B : Nat} (hb : Below B w w') (hB : w.heap.size ≤ B) : BoolsAt w' g n f :=
  h.kept (only_of_below (hb.mono hB) none) (by simp)
/-- The model's memory: the row of what is met, the rows. -/
structure CM (z : Nat) (W1 w : World) (n : Nat) (f : Nat → Bool) (ov : Value) (m : Nat) (gs caps : Nat → Nat) (F : Nat → List Int) : Prop where
  below : Below (z + 1) W1 w
  met : BoolsAt w (z + 1) n f
  acc : AccS w (z + 2) ov m gs caps F
theorem CM.set {z : Nat} {W1 w : World} {n : Nat} {f : Nat → Bool} {ov : Value} {m : Nat} {gs caps : Nat → Nat} {F : Nat → List Int} (h : CM z W1 w n f ov m gs caps F) {i : Nat} (hi : i < n) :
    CM z W1 (w.setCell ⟨z + 1, i, none⟩ (.bool true)) n (fun q => if q = i then true else f q) ov m gs caps F := by
  have hg := only_setCell (p := ⟨z + 1, i, none⟩) (only_refl w (some (z + 1))) rfl (.bool true)
  refine ⟨h.below.setCell (p := ⟨z + 1, i, none⟩) (Nat.le_refl _) _, h.met.set hi, h.acc.kept hg (.inr fun e => ?_) (fun k hk e => ?_)⟩
  · have := (ownsRow_lt h.acc.own _ e).1; omega
  · have := h.acc.low k hk; simp at e; omega
theorem CM.step {z : Nat} {W1 w w' : World} {n : Nat} {f : Nat → Bool} {ov : Value} {m : Nat} {gs caps : Nat → Nat} {F : Nat → List Int} (h : CM z W1 w n f ov m gs caps F) (hz : z + 1 ≤ w.heap.size) (hb : Below w.heap.size w w') : CM z W1 w' n f ov m gs caps F :=
  ⟨h.below.trans (hb.mono hz), h.met.below hb (Nat.le_refl _), h.acc.below hb (Nat.le_refl _)⟩
theorem CM.grow {z : Nat} {W1 w w' : World} {n : Nat} {f : Nat → Bool} {ov : Value} {m : Nat} {gs caps : Nat → Nat} {F : Nat → List Int} {row : Option Nat} (h : CM z W1 w n f ov m gs caps F) (hg : w.grownBy w' row) (hz : z + 1 ≤ w.heap.size)
    (hr : ∀ r, row = some r → z + 2 ≤ r ∧ ov.ownBlock ≠ some r ∧ ∀ k, k < m → gs k ≠ r) : CM z W1 w' n f ov m gs caps F :=
  ⟨h.below.grown hg hz (fun r e => by have := (hr r e).1; omega), h.met.kept hg (fun e => by have := (hr _ e.symm).1; omega), h.acc.kept hg (by
    cases row with
    | none => exact .inl rfl
    | some r => exact .inr (hr r rfl).2.1) (fun k hk e => (hr _ e.symm).2.2 k hk rfl)⟩
theorem CM.congr {z : Nat} {W1 w : World} {n : Nat} {f f' : Nat → Bool} {ov : Value} {m : Nat} {gs caps : Nat → Nat} {F : Nat → List Int} (h : CM z W1 w n f ov m gs caps F) (e : ∀ q, q < n → f q = f' q) : CM z W1 w n f' ov m gs caps F :=
  ⟨h.below, h.met.congr e, h.acc⟩
set_option maxRecDepth 100000 in
set_option maxHeartbeats 8000000 in
theorem l03Cycles_any (n : Nat) (s : Value) (bs : List Blk) (a b : Nat) (w : World) (h : SB w s bs) (hi : isSysImpl (n : Int) bs = true) (hf : fullB (n : Int) bs = true) (ha : a < n) (hb : b < n) (hab : a ≠ b) :
    Calls Try.prog 64 #[.agg #[.int .i64 (n : Int), s], .int .i64 (a : Int), .int .i64 (b : Int)] w (fun e w' => ∃ u, e = .returned u ∧ ResSS w' w.heap.size u (cyS bs a b n).length (rowsF (cyS bs a b n)) ∧ Below w.heap.size w w') := by
  have hn15 := (sys_size hi).2.1
  have hgood := sys_good hi
  have HTH := Lib.hid fun W (hb2 : Below w.heap.size w W) (p q : Int) p0 p1 q0 q1 => l01Third_any (n : Int) s bs p q W (h.below hb2 (Nat.le_refl _)) hgood hn15 p0 p1 q0 q1
  have hs := h.slice
  have HI := Lib.hid hi
  have HF := Lib.hid hf
  have htri := tri_third hi hf (a := (a : Int)) (b := (b : Int)) (by omega) (by omega) (by omega)
  have htr := htri.range hi
  obtain ⟨t, ht⟩ := Int.eq_ofNat_of_zero_le htr.1
  have htn : t < n := by omega
  have HT3 := Lib.hid ht
  have hmb := mkBools n (by omega)
  clear h hi hf htri htr hgood
  obtain ⟨a0, c0, rfl⟩ := hs
  go_enter Try.func64, Try.ntmps64
  obtain ⟨W0, rfl⟩ : ∃ W0, W0 = w := ⟨_, rfl⟩
  obtain ⟨W1, hW1⟩ : ∃ W1, W1 = W0.alloc (.cells #[.int .i64 (n : Int), .slice a0 bs.length c0] 34) := ⟨_, rfl⟩
  have hz1 : W1.heap.size = W0.heap.size + 1 := by rw [hW1]; simp
  have p0 : W1.cell? ⟨W0.heap.size, 0, none⟩ = some (.int .i64 (n : Int)) := by rw [hW1]; simp [go_sem]
  have p1 : W1.cell? ⟨W0.heap.size, 1, none⟩ = some (.slice a0 bs.length c0) := by rw [hW1]; simp [go_sem]
  have HB1 := Lib.hid (show Below W0.heap.size W0 W1 by rw [hW1]; exact (Below.refl _ _).alloc (Nat.le_refl _) _)
  obtain ⟨W2, hW2⟩ : ∃ W2, W2 = (W1.alloc (.cells (madeCells #[.bool false] n) 4)).alloc (.cells #[] 27) := ⟨_, rfl⟩
  have hz2 : W2.heap.size = W0.heap.size + 3 := by rw [hW2]; simp [hz1]
  have hM2 : BoolsAt W2 (W0.heap.size + 1) n (fun _ => false) := by
    rw [hW2, ← hz1]
    exact (BoolsAt.made W1 n _).kept (World.grownBy_alloc _ _ none) (by simp)
  have hA2 : AccS W2 (W0.heap.size + 2) (.slice (some ⟨W0.heap.size + 2, 0, none⟩) 0 0) 0 (fun _ => 0) (fun _ => 0) (rowsF (cyS bs a b n)) := by
    have := AccS.new0 (W1.alloc (.cells (madeCells #[.bool false] n) 4)) (fun _ => 0) (fun _ => 0) (rowsF (cyS bs a b n)) (Nat.le_refl _)
    rw [hW2]
    simpa [hz1] using this
  have hB2 : Below (W0.heap.size + 1) W1 W2 := by rw [hW2, ← hz1]; exact ((Below.refl _ _).alloc (Nat.le_refl _) _).alloc (by simp) _
  go_upto_region 2 with (fail)
  rw [← hW1, ← hW2]
  have C2 : CM W0.heap.size W1 W2 n (fun _ => false) (.slice (some ⟨W0.heap.size + 2, 0, none⟩) 0 0) 0 (fun _ => 0) (fun _ => 0) (rowsF (cyS bs a b n)) := ⟨hB2, hM2, hA2⟩
  have g0 : (0 : Int) ≤ (a : Int) := by omega
  have g1 : (a : Int) < (n : Int) := by omega
  have g2 : (0 : Int) ≤ (b : Int) := by omega
  have g3 : (b : Int) < (n : Int) := by omega
  have g4 : (t : Int) < (n : Int) := by omega
  have C3 := C2.set ha
  have m1 := C2.met.cell a ha
  have f1 := C2.met.free a
  obtain ⟨V3, hV3⟩ : ∃ V, V = W2.setCell ⟨W0.heap.size + 1, a, none⟩ (.bool true) := ⟨_, rfl⟩
  have HC2 := Lib.hid C2
  clear hW1 hW2 hM2 hA2 hB2 C2
  have HC3 := Lib.hid C3
  clear C3
  go_upto_region 3 with (fail)
  rw [← hV3] at HC3 ⊢
  have m2 := HC3.out.met.cell b hb
  have f2 := HC3.out.met.free b
  have hz3 : V3.heap.size = W0.heap.size + 3 := by rw [hV3]; simpa [World.setCell] using hz2
  clear hV3 m1 f1
  have HC4 := Lib.hid (HC3.out.set hb)
  obtain ⟨V4, hV4⟩ : ∃ V, V = V3.setCell ⟨W0.heap.size + 1, b, none⟩ (.bool true) := ⟨_, rfl⟩
  go_upto_region 4 with (fail)
  rw [← hV4] at HC4 ⊢
  have hz4 : V4.heap.size = W0.heap.size + 3 := by rw [hV4]; simpa [World.setCell] using hz3
  clear hV4 m2 f2
  have q0 := (HC4.out.below.cell (p := ⟨W0.heap.size, 0, none⟩) (by simp)).trans p0
  have q1 := (HC4.out.below.cell (p := ⟨W0.heap.size, 1, none⟩) (by simp)).trans p1
  go_wp2_with fail
  refine (HTH.out _ (HB1.out.trans (HC4.out.below.mono (by omega))) _ _ (by omega) (by omega) (by omega) (by omega)).mono ?_
  rintro e w5 ⟨rfl, hb5⟩
  rw [HT3.out]
  have hz5 := hb5.size
  have HC5 := Lib.hid (HC4.out.step (by omega) hb5)
  have m5 := HC5.out.met.cell t htn
  have f5 := HC5.out.met.free t
  have HC6 := Lib.hid (HC5.out.set htn)
  clear hb5 q0 q1
  obtain ⟨V6, hV6⟩ : ∃ V, V = w5.setCell ⟨W0.heap.size + 1, t, none⟩ (.bool true) := ⟨_, rfl⟩
  go_upto_region 5 with (fail)
  rw [← hV6] at HC6 ⊢
  have hz6 : W0.heap.size + 3 ≤ V6.heap.size := by rw [hV6]; simp [World.setCell]; omega
  clear hV6 m5 f5
  have HC := Lib.hid (HC6.out.congr (f' := fun q => decide ((q : Int) ∈ seen0 bs a b ++ (cyS bs a b 0).flatten)) (fun q _ => by
    rw [Bool.eq_iff_iff]
    simp only [seen0, HT3.out, cyS, List.flatten_nil, List.append_nil, List.mem_cons, List.not_mem_nil, or_false, decide_eq_true_eq]
    by_cases e1 : q = t
    · simp [e1]
    · by_cases e2 : q = b
      · simp [e2]
      · by_cases e3 : q = a
        · simp [e3]
        · simp only [if_neg e1, if_neg e2, if_neg e3]
          constructor
          · intro h; cases h
          · intro h; omega))
  clear HC2 HC3 HC4 HC5 HC6
  have HPO := Lib.hid fun (k : Nat) (hk : Beyond n bs (a : Int) (b : Int) (k : Int)) => perN_ok HI.out HF.out ha hb hab hk
  have HBY := Lib.hid fun (k : Nat) (hk : Beyond n bs (a : Int) (b : Int) (k : Int)) j => (two_thirds HI.out HF.out (a := (a : Int)) (b := (b : Int)) (by omega) (by omega) (by omega)).mem hk j
  have HNI := Lib.hid fun (k : Nat) (hk : k ≤ n) (hs : Beyond n bs (a : Int) (b : Int) (k : Int)) hn j => wk_notin HI.out HF.out ha hb hab hk hs hn j
  go_wp2_with fail
  go_loopw [8, 9] (fun ov i wr => ∃ (k : Nat) (gs caps : Nat → Nat), k ≤ n ∧ i = .int .i64 k ∧ CM W0.heap.size W1 wr n (fun q => decide ((q : Int) ∈ seen0 bs a b ++ (cyS bs a b k).flatten)) ov (cyS bs a b k).length gs caps (rowsF (cyS bs a b n)) ∧ W0.heap.size + 3 ≤ wr.heap.size ∧ ∃ x y, ov = .slice x (cyS bs a b k).length y) (fun _ i _ => n - (intOf i).toNat)
  case atStart => exact ⟨0, _, _, Nat.zero_le _, rfl, HC.out, hz6, _, _, rfl⟩
  case round =>
    obtain ⟨k, gs, caps, hk, rfl, hM, hzr, x0, y0, rfl⟩ := hrel
    have HM := Lib.hid hM
    have hcl := cyS_len (bs := bs) (a := a) (b := b) k
    obtain ⟨sl, hsl'⟩ : ∃ sl, sl = seen0 bs a b ++ (cyS bs a b k).flatten := ⟨_, rfl⟩
    obtain ⟨m, hm⟩ : ∃ m, m = (cyS bs a b k).length := ⟨_, rfl⟩
    have hm15 : m ≤ 15 := by omega
    rw [← hsl', ← hm] at HM
    rw [← hm]
    have r0 := (HM.out.below.cell (p := ⟨W0.heap.size, 0, none⟩) (by simp)).trans p0
    have r1 := (HM.out.below.cell (p := ⟨W0.heap.size, 1, none⟩) (by simp)).trans p1
    clear hM hcl
    by_cases hkl : k < n
    · have mk := HM.out.met.cell k hkl
      have k0 : (0 : Int) ≤ (k : Int) := by omega
      have k1 : (k : Int) < (n : Int) := by omega
      by_cases hin : (k : Int) ∈ sl
      · have dk : decide ((k : Int) ∈ sl) = true := decide_eq_true hin
        rw [dk] at mk
        have HN := Lib.hid (cyS_next_in (bs := bs) (a := a) (b := b) (k := k) (by rw [← hsl']; exact hin))
        have HSL := Lib.hid hsl'
        have HMM := Lib.hid hm
        clear hin hsl' hm dk
        go_wp2_with fail
        go_roundw
        case rel => exact ⟨k + 1, gs, caps, by omega, by go_num, by rw [HN.out, ← HSL.out, ← HMM.out]; exact HM.out, hzr, x0, y0, by rw [HN.out, ← HMM.out]⟩
        case measure => simp [intOf]; omega
      · have dk : decide ((k : Int) ∈ sl) = false := decide_eq_false hin
        rw [dk] at mk
        have hnot : ¬ (k : Int) ∈ seen0 bs a b ++ (cyS bs a b k).flatten := by rw [← hsl']; exact hin
        have HN := Lib.hid (cyS_next_out hnot)
        obtain ⟨hbey, hnin⟩ := beyond_of hkl hnot
        have hok := HPO.out k hbey
        obtain ⟨N, hNe⟩ : ∃ N, N = perN bs a b (k : Int) := ⟨_, rfl⟩
        rw [← hNe] at hok
        obtain ⟨hN0, hN2, hN15, hfr, hNs⟩ := hok
        have HBE := Lib.hid (show ∀ j, Beyond n bs (a : Int) (b : Int) (wk bs a b (k : Int) j) from HBY.out k hbey)
        have HNF := Lib.hid (show ∀ j, j < N → ¬ wk bs a b (k : Int) j ∈ sl ++ wkL bs a b (k : Int) j from fun j hj hmm => by
          rcases List.mem_append.1 hmm with h1 | h1
          · rw [hsl', List.mem_append] at h1
            rcases h1 with h1 | h1
            · have hb2 := HBE.out j
              simp only [seen0, List.mem_cons, List.not_mem_nil, or_false] at h1
              rcases h1 with h1 | h1 | h1
              · exact hb2.2.1 h1
              · exact hb2.2.2.1 h1
              · exact hb2.2.2.2 h1
            · exact HNI.out k hk hbey hnin j h1
          · obtain ⟨i, hi, e⟩ := List.mem_map.1 h1
            exact hfr i j (List.mem_range.1 hi) hj e)
        have HNY := Lib.hid (show wk bs a b (k : Int) N ∈ sl ++ wkL bs a b (k : Int) N from List.mem_append_right _ (List.mem_map.2 ⟨0, List.mem_range.2 hN0, hNs.symm⟩))
        obtain ⟨R, hR⟩ := cyS_pre (bs := bs) (a := a) (b := b) (show k + 1 ≤ n by omega)
        have HFM := Lib.hid (show rowsF (cyS bs a b n) m = wkL bs a b (k : Int) N by
          unfold rowsF
          rw [hR, HN.out, hm, List.append_assoc, List.getElem?_append_right (Nat.le_refl _), Nat.sub_self, hNe]
          rfl)
        have HNC := Lib.hid (show cyS bs a b (k + 1) = cyS bs a b k ++ [wkL bs a b (k : Int) N] by rw [HN.out, hNe]; rfl)
        have HSL := Lib.hid hsl'
        have HMM := Lib.hid hm
        have HXL := Lib.hid (show ∀ r, (Value.slice x0 m y0).ownBlock = some r → W0.heap.size + 2 ≤ r ∧ r < wr.heap.size from fun r e => ownsRow_lt HM.out.acc.own r e)
        have HGL := Lib.hid (show ∀ j, j < m → gs j < wr.heap.size from fun j hj => (HM.out.acc.row j hj).lt)
        have HM7 := Lib.hid (HM.out.step (by omega) ((Below.refl wr.heap.size wr).alloc (Nat.le_refl _) (.cells #[] 2)))
        have HO7 := Lib.hid (OwnJ.new0 wr (Nat.le_refl _))
        have HW0 := Lib.hid (show wk bs a b (k : Int) 0 = (k : Int) from rfl)
        clear hin hsl' hm dk hnot hbey hnin hNe hfr hNs hR
        obtain ⟨Wk, rfl⟩ : ∃ W, W = wr := ⟨_, rfl⟩
        go_wp2_with fail
        go_loopw [10, 11, 12] (fun o at_ by_ wx => ∃ j : Nat, j ≤ N ∧ at_ = .int .i64 (wk bs a b (k : Int) j) ∧ by_ = .int .i64 (if j % 2 = 0 then (a : Int) else (b : Int)) ∧ CM W0.heap.size W1 wx n (fun q => decide ((q : Int) ∈ sl ++ wkL bs a b (k : Int) j)) (.slice x0 m y0) m gs caps (rowsF (cyS bs a b n)) ∧ OwnJ wx Wk.heap.size o (wkL bs a b (k : Int) j) ∧ Wk.heap.size < wx.heap.size ∧ ∃ x y, o = .slice x j y) (fun o _ _ _ => N - lenOf o)
        case atStart => exact ⟨0, Nat.zero_le _, by rw [HW0.out], rfl, HM7.out.congr (fun q _ => by simp [wkL]), HO7.out, by simp, _, _, rfl⟩
        case round =>
          obtain ⟨j, hj, rfl, rfl, hC, hO, hzx, x1, y1, rfl⟩ := hrel
          have HCj := Lib.hid hC
          have HOj := Lib.hid hO
          have hP := (HBE.out j).1
          obtain ⟨P, hPn⟩ := Int.eq_ofNat_of_zero_le hP.1
          rw [hPn] at hP
          have hPl : P < n := by omega
          have mP := hC.met.cell P hPl
          have fP := hC.met.free P
          have P0 : (0 : Int) ≤ (P : Int) := by omega
          have P1 : (P : Int) < (n : Int) := by omega
          rw [hPn]
          clear hC hO
          by_cases hjl : j < N
          · have dP : decide ((P : Int) ∈ sl ++ wkL bs a b (k : Int) j) = false := decide_eq_false (by rw [← hPn]; exact HNF.out j hjl)
            rw [dP] at mP
            obtain ⟨Y, hY⟩ : ∃ Y : Nat, Y = if j % 2 = 0 then a else b := ⟨_, rfl⟩
            have hYn : Y < n := by rw [hY]; split <;> assumption
            have hYi : (if j % 2 = 0 then (a : Int) else (b : Int)) = (Y : Int) := by rw [hY]; split <;> rfl
            have hYs : (a : Int) + (b : Int) - (Y : Int) = if (j + 1) % 2 = 0 then (a : Int) else (b : Int) := by
              rw [hY]
              by_cases e : j % 2 = 0
              · rw [if_pos e, if_neg (by omega)]; omega
              · rw [if_neg e, if_pos (by omega)]; omega
            have hth : third1 bs (Y : Int) (P : Int) = wk bs a b (k : Int) (j + 1) := by
              rw [← hPn]
              show _ = (if j % 2 = 0 then _ else _)
              rw [hY]
              split <;> rfl
            have hS : wkL bs a b (k : Int) (j + 1) = wkL bs a b (k : Int) j ++ [(P : Int)] := by rw [← hPn]; simp [wkL, List.range_succ]
            have hwl : (wkL bs a b (k : Int) j).length ≤ 15 := by rw [wkL_len]; omega
            have HS := Lib.hid hS
            have HYS := Lib.hid hYs
            have HTHJ := Lib.hid hth
            have HWL := Lib.hid (wkL_len bs a b (k : Int) j)
            obtain ⟨T, hTn⟩ := Int.eq_ofNat_of_zero_le (HBE.out (j + 1)).1.1
            have hCs := HCj.out.set hPl
            obtain ⟨V8, hV8⟩ : ∃ V, V = wr.setCell ⟨W0.heap.size + 1, P, none⟩ (.bool true) := ⟨_, rfl⟩
            have hst := only_setCell (p := ⟨W0.heap.size + 1, P, none⟩) (only_refl wr (some (W0.heap.size + 1))) rfl (.bool true)
            have hO8 : OwnJ V8 Wk.heap.size (.slice x1 j y1) (wkL bs a b (k : Int) j) := by
              rw [hV8]
              exact ownsRow_kept HOj.out hst (.inr fun e => by have := HOj.out.row _ e; omega)
            have hz8 : V8.heap.size = wr.heap.size := by rw [hV8]; simp [World.setCell]
            have HC8 := Lib.hid hCs
            have HO8 := Lib.hid hO8
            have HHV := Lib.hid hV8
            have HTN := Lib.hid hTn
            have HPN := Lib.hid hPn
            rw [hYi]
            clear hCs hO8 hst hV8 hS hYs hth hY hTn hYi hPn
            go_upto_region 12 with (fail)
            rw [← HHV.out]
            rw [← HHV.out] at HC8
            have hzb : Wk.heap.size ≤ V8.heap.size := by omega
            have h8le := Nat.le_of_eq hz8
            have h8ge := Nat.le_of_eq hz8.symm
            clear hz8
            clear mP fP dP
            have hO8a := HO8.out.below ((Below.refl V8.heap.size V8).alloc (Nat.le_refl _) (.cells #[.int .i64 (P : Int)] 2)) (Nat.le_refl _)
            have hc8 : (V8.alloc (.cells #[.int .i64 (P : Int)] 2)).cell? ⟨V8.heap.size, 0, none⟩ = some (.int .i64 (P : Int)) := by simp [go_sem]
            have hz8a : Wk.heap.size ≤ (V8.alloc (.cells #[.int .i64 (P : Int)] 2)).heap.size := by simp; omega
            have HA8 := Lib.hid (And.intro hO8a (And.intro hc8 hz8a))
            clear hO8a hc8 hz8a
            go_upto_region 13 with (at_builtin; refine wpList_append_int rfl _ _ rfl Wk.heap.size _ (wkL bs a b (k : Int) j) rfl HA8.out.1 V8.heap.size 1 (P : Int) rfl HA8.out.2.1 (by omega) HA8.out.2.2 ?_; intro g' cap' w9 hO9 hg9)
            have hgo : V8.grownBy w9 (Value.slice x1 j y1).ownBlock := gb_trans (World.grownBy_alloc _ _ none) hg9
            have hz9 := hgo.size
            have HC9 := Lib.hid (HC8.out.grow hgo (by omega) (fun r e => by
              have h1 := HO8.out.row r e
              exact ⟨by omega, fun e2 => by have := (HXL.out r e2).2; omega, fun q hq e2 => by have := HGL.out q hq; omega⟩))
            have q0 := (HC9.out.below.cell (p := ⟨W0.heap.size, 0, none⟩) (by simp)).trans p0
            have q1 := (HC9.out.below.cell (p := ⟨W0.heap.size, 1, none⟩) (by simp)).trans p1
            have HO9 := Lib.hid hO9
            clear hO9 hg9 hgo
            go_wp2_with fail
            refine (HTH.out _ (HB1.out.trans (HC9.out.below.mono (by omega))) _ _ (by omega) (by omega) (by omega) (by omega)).mono ?_
            rintro e w10 ⟨rfl, hb10⟩
            rw [HTHJ.out]
            have hz10 := hb10.size
            have HC10 := Lib.hid (HC9.out.step (by omega) hb10)
            have HO10 := Lib.hid (HO9.out.below hb10 (Nat.le_refl _))
            clear hb10 q0 q1
            obtain ⟨Z, hZ⟩ : ∃ Z, Z = wk bs a b (k : Int) (j + 1) := ⟨_, rfl⟩
            rw [← hZ]
            have HZ := Lib.hid hZ
            clear hZ
            go_wp2_with fail
            go_roundw
            case rel =>
              refine ⟨j + 1, by omega, by rw [HZ.out], by rw [HYS.out], HC10.out.congr (fun q _ => ?_), by rw [HS.out]; have := HO10.out; exact this, by omega, some ⟨g', 0, none⟩, cap', by rw [HWL.out]⟩
              rw [HS.out, Bool.eq_iff_iff]
              simp only [List.mem_append, List.mem_singleton, decide_eq_true_eq]
              by_cases e : q = P
              · simp [e]
              · simp only [if_neg e, decide_eq_true_eq]
                constructor
                · intro h; rcases h with h | h; exact .inl h; exact .inr (.inl h)
                · intro h
                  rcases h with h | h | h
                  · exact .inl h
                  · exact .inr h
                  · omega
            case measure => rw [HWL.out]; simp [lenOf]; omega
          · have e : j = N := by omega
            have dP : decide ((P : Int) ∈ sl ++ wkL bs a b (k : Int) j) = true := decide_eq_true (by rw [← hPn, e]; exact HNY.out)
            rw [dP] at mP
            rw [e] at HCj HOj ⊢
            have hNl : (wkL bs a b (k : Int) N).length = N := wkL_len _ _ _ _ _
            obtain ⟨g3, cap3, hu3, hg3lo, hg3hi, hoA⟩ : ∃ g cap, (Value.slice x1 N y1) = .slice (some ⟨g, 0, none⟩) (wkL bs a b (k : Int) N).length cap ∧ Wk.heap.size ≤ g ∧ g < wr.heap.size ∧ OwnAtI wr g (wkL bs a b (k : Int) N) := by
              rcases HOj.out.res (by rw [hNl]; omega) with ⟨e, _⟩ | h
              · rw [e] at hNl; simp at hNl; omega
              · exact h
            rw [hNl] at hu3
            simp at hu3
            obtain ⟨rfl, rfl⟩ := hu3
            have HOA := Lib.hid hoA
            have HNL := Lib.hid hNl
            clear hoA hNl hjl hj e dP hPn
            go_wp2_with (at_builtin; refine wpList_append_row_at rfl _ _ rfl (W0.heap.size + 2) _ m gs caps (rowsF (cyS bs a b n)) rfl (HCj.out.acc.below ((Below.refl _ _).alloc (Nat.le_refl _) _) (Nat.le_refl _)) wr.heap.size 1 rfl g3 y1 (by rw [HFM.out, HNL.out]; simp [go_sem]) (by rw [HFM.out]; exact HOA.out.kept (World.grownBy_alloc _ _ none) (by simp)) (fun i hi => by have := HGL.out i hi; omega) (fun e => by have := (HXL.out g3 e).2; omega) (by omega) (by omega) (by simp <;> omega) ?_; intro gC capC w9 haC hgC heC)
            have hgo : wr.grownBy w9 (Value.slice x0 m y0).ownBlock := gb_trans (World.grownBy_alloc _ _ none) hgC
            have hz9 := hgo.size
            have hB9 : Below (W0.heap.size + 1) W1 w9 := HCj.out.below.grown hgo (by omega) (fun r e => by have := (HXL.out r e).1; omega)
            have hM9 := HCj.out.met.kept hgo (fun e => by have := (HXL.out _ e.symm).1; omega)
            have hln : (cyS bs a b (k + 1)).length = m + 1 := by rw [HNC.out, List.length_append, ← HMM.out]; rfl
            have HLN := Lib.hid hln
            have HFL := Lib.hid (show seen0 bs a b ++ (cyS bs a b (k + 1)).flatten = sl ++ wkL bs a b (k : Int) N by rw [HNC.out, List.flatten_append, ← List.append_assoc, ← HSL.out]; simp)
            have HC9 := Lib.hid (show CM W0.heap.size W1 w9 n _ _ (m + 1) _ _ _ from ⟨hB9, hM9, haC⟩)
            clear hln hgo hB9 hM9 haC hgC heC
            go_roundw
            case rel => exact ⟨k + 1, _, _, by omega, by go_num, by rw [HFL.out, HLN.out]; exact HC9.out, by omega, some ⟨gC, 0, none⟩, capC, by rw [HLN.out]⟩
            case measure => simp [intOf]; omega
    · have e : k = n := by omega
      subst e
      have hr := HM.out.acc.res
      have hB := HB1.out.trans (HM.out.below.mono (by omega))
      rw [hm] at hr ⊢
      go_wp2
      go_ret
      exact ⟨_, rfl, hr.kept' (by omega) rfl, hB⟩
end Go.Proofs.Ytbpmjjdjfniblaa

namespace Go.Proofs.Ytbpmjjdjfniblaa
open Go.RowKit Go.Maps
set_option maxRecDepth 100000 in
set_option maxHeartbeats 2000000 in
theorem l03Code_any (v : Int) (s : Value) (bs : List Blk) (a b : Int) (w : World) (h : SB w s bs) :
    Calls Try.prog 63 #[.agg #[.int .i64 v, s], .int .i64 a, .int .i64 b] w (RV (.int .i64 (cyCode v bs a b)) w) := by
  have hs := h.slice
  have HPT := Lib.hid fun W b0 c (hb : Below w.heap.size w W) (hI : Ints W b0 0 [a, b]) (hl : b0 < W.heap.size) => l01Points_any v s bs b0 0 c [a, b] W (h.below hb (Nat.le_refl _)) hI hl (by simp)
  have hcode : pointsCode v bs [a, b] = if isSysImpl v bs then (if inP v a && inP v b then 0 else 2) else 1 := by simp [pointsCode]
  obtain ⟨a0, c0, rfl⟩ := hs
  have hlen := h.2.1
  have hb1' := ((Below.refl w.heap.size w).alloc (Nat.le_refl _) (.cells #[.int .i64 v, .slice a0 bs.length c0] 34)).alloc (by simp) (.cells #[.int .i64 a, .int .i64 b] 2)
  clear h
  obtain ⟨κ, hκ⟩ : ∃ κ, κ = cyCode v bs a b := ⟨_, rfl⟩
  rw [← hκ]
  unfold cyCode at hκ
  by_cases hi : isSysImpl v bs = true
  · rw [if_pos hi] at hcode hκ
    by_cases hp : (inP v a && inP v b) = true
    · rw [if_pos hp] at hcode
      rw [hp, Bool.true_and] at hκ
      rw [hcode] at HPT
      by_cases hab : a = b
      · have e1 : (a == b) = true := by simp [hab]
        rw [e1] at hκ
        simp at hκ
        subst hκ
        clear hcode hi hp hab
        go_enter Try.func63, Try.ntmps63
        go_wp2_with (go_at_call 93; refine (HPT.out _ _ _ hb1' (ints2 (by simp) (by simp)) (by simp)).mono ?_; rintro e w1 ⟨rfl, hb1⟩)
        go_ret
        exact RV_of rfl (hb1'.trans (hb1.mono (by simp; omega)))
      · have e1 : (a == b) = false := by simp [hab]
        rw [e1] at hκ
        obtain ⟨v3, v15, _⟩ := sys_size hi
        have HFL := Lib.hid fun W => l01Full_any v (.slice a0 bs.length c0) bs W ⟨_, _, rfl⟩ v3 v15 hlen
        obtain ⟨β, hβ⟩ : ∃ β, β = fullB v bs := ⟨_, rfl⟩
        rw [← hβ] at HFL hκ
        clear hcode hi hp hab hβ v3 v15 hlen
        cases β
        all_goals
          simp at hκ
          subst hκ
          go_enter Try.func63, Try.ntmps63
          go_wp2_with fail
          refine (HPT.out _ _ _ hb1' (ints2 (by simp) (by simp)) (by simp)).mono ?_
          rintro e w1 ⟨rfl, hb1⟩
          have hbw := hb1'.trans (hb1.mono (by simp; omega))
          have d0 := (hb1.cell (p := ⟨w.heap.size, 0, none⟩) (by simp; omega)).trans (by simp [go_sem] : _ = some (Value.int .i64 v))
          have d1 := (hb1.cell (p := ⟨w.heap.size, 1, none⟩) (by simp; omega)).trans (by simp [go_sem] : _ = some (Value.slice a0 bs.length c0))
          clear hb1
          go_wp2_with fail
          refine (HFL.out _).mono ?_
          rintro e w2 ⟨rfl, hb2⟩
          go_wp2
          go_ret
          exact RV_of rfl (hbw.trans (hb2.mono hbw.size))
    · rw [if_neg hp] at hcode
      have hp' : (inP v a && inP v b) = false := by simpa using hp
      rw [hp', Bool.false_and] at hκ
      rw [hcode] at HPT
      simp at hκ
      subst hκ
      clear hcode hi hp hp'
      go_enter Try.func63, Try.ntmps63
      go_wp2_with (go_at_call 93; refine (HPT.out _ _ _ hb1' (ints2 (by simp) (by simp)) (by simp)).mono ?_; rintro e w1 ⟨rfl, hb1⟩)
      go_ret
      exact RV_of rfl (hb1'.trans (hb1.mono (by simp; omega)))
  · rw [if_neg hi] at hcode hκ
    rw [hcode] at HPT
    subst hκ
    clear hcode hi
    go_enter Try.func63, Try.ntmps63
    go_wp2_with (go_at_call 93; refine (HPT.out _ _ _ hb1' (ints2 (by simp) (by simp)) (by simp)).mono ?_; rintro e w1 ⟨rfl, hb1⟩)
    go_ret
    exact RV_of rfl (hb1'.trans (hb1.mono (by simp; omega)))
set_option maxRecDepth 100000 in
set_option maxHeartbeats 2000000 in
theorem specCyclesOf_any (v : Int) (s : Value) (bs : List Blk) (a b : Int) (w : World) (h : SB w s bs) :
    Calls Try.prog 28 #[.agg #[.int .i64 v, s], .int .i64 a, .int .i64 b] w (RRows (cyF v bs a b) w) := by
  have hb0 : Below w.heap.size w (w.alloc (.cells #[.int .i64 v, s] 34)) := (Below.refl _ _).alloc (Nat.le_refl _) _
  have HC := Lib.hid (l03Code_any v s bs a b _ (h.below hb0 (Nat.le_refl _)))
  have HS := Lib.hid fun W (hb : Below w.heap.size w W) => h.below hb (Nat.le_refl _)
  obtain ⟨a0, c0, rfl⟩ := h.slice
  clear h hb0
  by_cases hc : cyCode v bs a b = 0
  · obtain ⟨hi, hf, ha, hb, hab⟩ := cyCode_good hc
    obtain ⟨h3, h15, _⟩ := sys_size hi
    have hval : cyF v bs a b = (cyS bs a.toNat b.toNat v.toNat, 0) := by unfold cyF; rw [if_pos hc]
    rw [hc] at HC
    obtain ⟨n, rfl⟩ := Int.eq_ofNat_of_zero_le (show 0 ≤ v by omega)
    obtain ⟨na, rfl⟩ := Int.eq_ofNat_of_zero_le ha.1
    obtain ⟨nb, rfl⟩ := Int.eq_ofNat_of_zero_le hb.1
    rw [hval]
    simp only [Int.toNat_natCast]
    have HCY := Lib.hid fun W (hb2 : Below w.heap.size w W) => l03Cycles_any n (.slice a0 bs.length c0) bs na nb W (HS.out W hb2) hi hf (by omega) (by omega) (by omega)
    obtain ⟨L, hL⟩ : ∃ L, L = cyS bs na nb n := ⟨_, rfl⟩
    rw [← hL] at HCY ⊢
    clear hval hc hi hf ha hb hab h3 h15 hL HS
    go_enter Try.func28, Try.ntmps28
    go_wp2_with fail
    refine HC.out.mono ?_
    rintro e w1 ⟨rfl, hb1⟩
    have d0 := cell_new hb1 0 rfl
    have d1 := cell_new hb1 1 rfl
    have hbw := below_new hb1
    clear hb1
    go_wp2_with fail
    refine (HCY.out _ hbw).mono ?_
    rintro e w3 ⟨u3, rfl, hr3, hb3⟩
    obtain ⟨a3, c3, hu3⟩ := hr3.form
    subst hu3
    have hB3 := hbw.trans (hb3.mono hbw.size)
    have hz := hbw.size
    clear hb3
    go_wp2
    exact bodyPost_ret (v := .tuple #[.slice a3 L.length c3, .int .i64 0]) (by simp [results, Try.results28, go_sem, *]) rfl ⟨_, rfl, hr3.kept' hz rfl, hB3⟩
  · have hval : cyF v bs a b = ([], cyCode v bs a b) := by unfold cyF; rw [if_neg hc]
    rw [hval]
    obtain ⟨κ, hκ⟩ : ∃ κ, κ = cyCode v bs a b := ⟨_, rfl⟩
    rw [← hκ] at HC hc ⊢
    have hne : (κ != 0) = true := by simpa using hc
    clear hκ hval hc HS
    go_enter Try.func28, Try.ntmps28
    go_wp2_with fail
    refine HC.out.mono ?_
    rintro e w1 ⟨rfl, hb1⟩
    have hbw := below_new hb1
    clear hb1
    go_wp2
    exact bodyPost_ret (v := .tuple #[.slice none 0 0, .int .i64 κ]) (by simp [results, Try.results28, go_sem, *]) rfl ⟨_, rfl, .inl ⟨rfl, _, _, rfl⟩, hbw⟩
/-- The sizes of the answer. -/
theorem tot_short {F : Nat → List Int} {c : Nat} : ∀ n, (∀ k, k < n → (F k).length ≤ c) → tot F n ≤ c * n
  | 0, _ => Nat.zero_le _
  | n + 1, h => by
    have h1 := tot_short n fun k hk => h k (by omega)
    have h2 := h n (by omega)
    show tot F n + (F n).length ≤ c * (n + 1)
    rw [Nat.mul_add]
    omega
theorem cyF_len (v : Int) (bs : List Blk) (a b : Int) : (cyF v bs a b).1.length ≤ 15 := by
  unfold cyF
  split
  · rename_i hc
    obtain ⟨hi, _, _, _, _⟩ := cyCode_good hc
    obtain ⟨h3, h15, _⟩ := sys_size hi
    have := cyS_len (bs := bs) (a := a.toNat) (b := b.toNat) v.toNat
    show (cyS bs a.toNat b.toNat v.toNat).length ≤ 15
    omega
  · exact Nat.zero_le _
theorem cyF_tot (v : Int) (bs : List Blk) (a b : Int) : tot (rowsF (cyF v bs a b).1) (cyF v bs a b).1.length ≤ 1100000 := by
  have hl := cyF_len v bs a b
  have h1 : ∀ k, k < (cyF v bs a b).1.length → (rowsF (cyF v bs a b).1 k).length ≤ 15 := by
    intro k hk
    have hm : rowsF (cyF v bs a b).1 k ∈ (cyF v bs a b).1 := by
      unfold rowsF
      rw [List.getElem?_eq_getElem hk]
      exact List.getElem_mem hk
    revert hm
    generalize rowsF (cyF v bs a b).1 k = r
    clear hk hl
    unfold cyF
    split
    · rename_i hc
      obtain ⟨hi, hf, ha, hb, hab⟩ := cyCode_good hc
      obtain ⟨h3, h15, _⟩ := sys_size hi
      intro hm
      obtain ⟨n, rfl⟩ := Int.eq_ofNat_of_zero_le (show 0 ≤ v by omega)
      exact cyS_rows hi hf (by omega) (by omega) (by omega) _ (Nat.le_refl _) r hm
    · intro hm
      simp at hm
  have := tot_short _ h1
  omega
end Go.Proofs.Ytbpmjjdjfniblaa


/- slices.Grow of nil and slices.Concat of two lists of blocks. slices.Concat of three lists of blocks. The program's isRenumbering. impl.columnOf. impl.checkedSquare. Threefold systems: impl.threefoldOf. What the doors have in common. The door at a System. ThreefoldSystem: the program. ThreefoldSystem: the program, through its door. -/
import Derived.Test.YtlhiokcdjnmfmaaJ7
import Derived.WalkLawsBesides
import Derived.Defers
import Derived.Recover
import Derived.Laws.Pointers
namespace Go.Proofs.Ytlhiokcdjnmfmaa
open Go.RowKit Go.Maps Go.Shelf
theorem growB_any (n : Nat) (hn : n ≤ 1000000) (w : World) : Calls Try.prog 158 #[.slice none 0 0, .int .i64 (n : Int)] w (RO [] w) := by
  by_cases h0 : n = 0
  · subst h0
    refine Calls.mono (Any8.slices_Grow_room Try.growB none 0 0 0 w (by omega) (by omega) (by omega) (by omega)) ?_
    rintro e w' ⟨rfl, rfl⟩
    exact ⟨_, rfl, OwnR.nil _ _, Below.refl _ _⟩
  · obtain ⟨i0, hi, hz0, hz1, hz2⟩ := info_parts infoBlock
    refine Calls.mono (Any8.slices_Grow_grow Try.growB i0 _ hi hz0 (by rw [hz1]; omega) none 0 0 n [] w (by omega) (by omega) (by rw [hz2]; omega) (by omega) (by simp) (fun _ => rfl) (by simp)) ?_
    rintro e w' ⟨rfl, rfl⟩
    have hge := grownCap_ge w (0 + n) 0 (Try.growB_ren.t 25)
    have hle := grownCap_le_maxLen w (0 + n) 0 (Try.growB_ren.t 25) (by unfold maxLen; omega)
    refine ⟨_, rfl, World.ownsRow_made w.drew _ _ (Nat.le_refl _) hle ?_, (Below.refl _ _).drew.alloc (Nat.le_refl _) _⟩
    obtain ⟨cap, hcap⟩ : ∃ cap, cap = grownCap w (0 + n) 0 (Try.growB_ren.t 25) := ⟨_, rfl⟩
    rw [← hcap] at hge ⊢
    simp only [Array.size_append, List.size_toArray, List.length_nil, size_zeroCells, Value.cells]
    show 0 + (0 + n - 0) * 3 + (cap - (0 + n)) * 3 = cap * 3
    omega
set_option maxRecDepth 100000 in
set_option maxHeartbeats 1000000 in
/-- slices.Concat of two lists: both, in memory of its own. -/
theorem concat2_any (H : Nat) (s t : Value) (bs cs : List Blk) (w : World) (h0 : w.cell? ⟨H, 0, none⟩ = some s) (h1 : w.cell? ⟨H, 1, none⟩ = some t) (hs : SX w s bs) (ht : SX w t cs) (hb : bs.length ≤ 400000) (hc : cs.length ≤ 400000) :
    Calls Try.prog 123 #[.slice (some ⟨H, 0, none⟩) 2 2] w (RO (bs ++ cs) w) := by
  have hH : H < w.heap.size := World.block_lt_of_cell? w ⟨H, 0, none⟩ h0
  have HG := Lib.hid (growB_any (bs.length + cs.length) (by omega) w)
  have fs : ∃ a c, s = .slice a bs.length c := by rcases hs with ⟨a0, c0, rfl, rfl⟩ | ⟨b, off, cap, rfl, _⟩ <;> exact ⟨_, _, rfl⟩
  have ft : ∃ a c, t = .slice a cs.length c := by rcases ht with ⟨a0, c0, rfl, rfl⟩ | ⟨b, off, cap, rfl, _⟩ <;> exact ⟨_, _, rfl⟩
  have HS := Lib.hid hs
  have HT := Lib.hid ht
  clear hs ht
  obtain ⟨a1, c1, rfl⟩ := fs
  obtain ⟨a2, c2, rfl⟩ := ft
  obtain ⟨n1, hn1⟩ : ∃ n, n = bs.length := ⟨_, rfl⟩
  obtain ⟨n2, hn2⟩ : ∃ n, n = cs.length := ⟨_, rfl⟩
  rw [← hn1] at h0 HG HS
  rw [← hn2] at h1 HG HT
  have HN := Lib.hid (And.intro hn1 hn2)
  have b1 : n1 ≤ 400000 := by omega
  have b2 : n2 ≤ 400000 := by omega
  clear hn1 hn2 hb hc
  go_enter Try.func123, Try.ntmps123
  go_wp2_with fail
  refine wp_loop_rounds 3 ?_
  rw [rounds_succ]
  go_wp2
  rw [rounds_succ]
  go_wp2
  rw [rounds_succ]
  go_wp2_with fail
  rw [← Int.natCast_add]
  refine HG.out.mono ?_
  rintro e w1 ⟨u, rfl, ho, hb1⟩
  obtain ⟨a3, c3, hu⟩ := ho.form
  subst hu
  have p0 := (hb1.cell (p := ⟨H, 0, none⟩) hH).trans h0
  have p1 := (hb1.cell (p := ⟨H, 1, none⟩) hH).trans h1
  have HO := Lib.hid ho
  have HS1 := Lib.hid (HS.out.below hb1 (Nat.le_refl _))
  have HT1 := Lib.hid (HT.out.below hb1 (Nat.le_refl _))
  have hz1 := hb1.size
  have HB1 := Lib.hid hb1
  clear h0 h1 HG ho hb1
  go_wp2
  refine wp_loop_rounds 3 ?_
  rw [rounds_succ]
  go_wp2_with (at_builtin; refine wpList_append_many rfl _ _ rfl w.heap.size (.slice a3 ([] : List Blk).length c3) [] rfl HO.out (.slice a1 n1 c1) bs rfl HS1.out (by have := HN.out; simp; omega) hz1 ?_; intro a4 c4 w4 ho4 hg4)
  have hne : ∀ r, (Value.slice a3 ([] : List Blk).length c3).ownBlock = some r → w.heap.size ≤ r := HO.out.row
  have q0 := hg4.cell p0 (fun e => by have := hne _ e.symm; simp at this; omega)
  have q1 := hg4.cell p1 (fun e => by have := hne _ e.symm; simp at this; omega)
  have hB4 := HB1.out.grown hg4 HB1.out.size (fun j e => hne j e)
  have hz4 := hB4.size
  simp only [List.length_nil, Nat.zero_add, List.nil_append] at ho4
  have HO4 := Lib.hid ho4
  have HT4 := Lib.hid (HT.out.below hB4 (Nat.le_refl _))
  have HB4 := Lib.hid hB4
  clear p0 p1 hne ho4 hg4 hB4
  have l4 : bs.length ≤ 1000000 := by have := HN.out; omega
  rw [rounds_succ]
  go_wp2_with (at_builtin; refine wpList_append_many rfl _ _ rfl w.heap.size (.slice a4 bs.length c4) bs rfl HO4.out (.slice a2 n2 c2) cs rfl HT4.out (by have := HN.out; simp; omega) hz4 ?_; intro a5 c5 w5 ho5 hg5)
  have hne : ∀ r, (Value.slice a4 bs.length c4).ownBlock = some r → w.heap.size ≤ r := HO4.out.row
  have hB5 := HB4.out.grown hg5 HB4.out.size (fun j e => hne j e)
  rw [rounds_succ]
  go_wp2
  go_ret
  exact ⟨_, rfl, ho5, hB5⟩
end Go.Proofs.Ytlhiokcdjnmfmaa

namespace Go.Proofs.Ytlhiokcdjnmfmaa
open Go.RowKit Go.Maps Go.Shelf
set_option maxRecDepth 100000 in
set_option maxHeartbeats 2000000 in
/-- slices.Concat of three lists: all, in memory of its own. -/
theorem concat3_any (H : Nat) (s t r : Value) (bs cs ds : List Blk) (w : World) (h0 : w.cell? ⟨H, 0, none⟩ = some s) (h1 : w.cell? ⟨H, 1, none⟩ = some t) (h2 : w.cell? ⟨H, 2, none⟩ = some r) (hs : SX w s bs) (ht : SX w t cs) (hr : SX w r ds) (hb : bs.length ≤ 300000) (hc : cs.length ≤ 300000) (hd : ds.length ≤ 300000) :
    Calls Try.prog 123 #[.slice (some ⟨H, 0, none⟩) 3 3] w (RO (bs ++ cs ++ ds) w) := by
  have hH : H < w.heap.size := World.block_lt_of_cell? w ⟨H, 0, none⟩ h0
  have HG := Lib.hid (growB_any (bs.length + cs.length + ds.length) (by omega) w)
  have fs : ∃ a c, s = .slice a bs.length c := by rcases hs with ⟨a0, c0, rfl, rfl⟩ | ⟨b, off, cap, rfl, _⟩ <;> exact ⟨_, _, rfl⟩
  have ft : ∃ a c, t = .slice a cs.length c := by rcases ht with ⟨a0, c0, rfl, rfl⟩ | ⟨b, off, cap, rfl, _⟩ <;> exact ⟨_, _, rfl⟩
  have fr : ∃ a c, r = .slice a ds.length c := by rcases hr with ⟨a0, c0, rfl, rfl⟩ | ⟨b, off, cap, rfl, _⟩ <;> exact ⟨_, _, rfl⟩
  have HS := Lib.hid hs
  have HT := Lib.hid ht
  have HR := Lib.hid hr
  clear hs ht hr
  obtain ⟨a1, c1, rfl⟩ := fs
  obtain ⟨a2, c2, rfl⟩ := ft
  obtain ⟨a0, c0, rfl⟩ := fr
  obtain ⟨n1, hn1⟩ : ∃ n, n = bs.length := ⟨_, rfl⟩
  obtain ⟨n2, hn2⟩ : ∃ n, n = cs.length := ⟨_, rfl⟩
  obtain ⟨n3, hn3⟩ : ∃ n, n = ds.length := ⟨_, rfl⟩
  rw [← hn1] at h0 HG HS
  rw [← hn2] at h1 HG HT
  rw [← hn3] at h2 HG HR
  have HN := Lib.hid (And.intro hn1 (And.intro hn2 hn3))
  have b1 : n1 ≤ 300000 := by omega
  have b2 : n2 ≤ 300000 := by omega
  have b3 : n3 ≤ 300000 := by omega
  clear hn1 hn2 hn3 hb hc hd
  go_enter Try.func123, Try.ntmps123
  go_wp2_with fail
  refine wp_loop_rounds 4 ?_
  rw [rounds_succ]
  go_wp2
  rw [rounds_succ]
  go_wp2
  rw [rounds_succ]
  go_wp2
  rw [rounds_succ]
  go_wp2_with fail
  rw [← Int.natCast_add, ← Int.natCast_add]
  refine HG.out.mono ?_
  rintro e w1 ⟨u, rfl, ho, hb1⟩
  obtain ⟨a3, c3, hu⟩ := ho.form
  subst hu
  have p0 := (hb1.cell (p := ⟨H, 0, none⟩) hH).trans h0
  have p1 := (hb1.cell (p := ⟨H, 1, none⟩) hH).trans h1
  have p2 := (hb1.cell (p := ⟨H, 2, none⟩) hH).trans h2
  have HO := Lib.hid ho
  have HS1 := Lib.hid (HS.out.below hb1 (Nat.le_refl _))
  have HT1 := Lib.hid (HT.out.below hb1 (Nat.le_refl _))
  have HR1 := Lib.hid (HR.out.below hb1 (Nat.le_refl _))
  have hz1 := hb1.size
  have HB1 := Lib.hid hb1
  clear h0 h1 h2 HG ho hb1
  go_wp2
  refine wp_loop_rounds 4 ?_
  rw [rounds_succ]
  go_wp2_with (at_builtin; refine wpList_append_many rfl _ _ rfl w.heap.size (.slice a3 ([] : List Blk).length c3) [] rfl HO.out (.slice a1 n1 c1) bs rfl HS1.out (by have := HN.out; simp; omega) hz1 ?_; intro a4 c4 w4 ho4 hg4)
  have hne : ∀ r, (Value.slice a3 ([] : List Blk).length c3).ownBlock = some r → w.heap.size ≤ r := HO.out.row
  have q0 := hg4.cell p0 (fun e => by have := hne _ e.symm; simp at this; omega)
  have q1 := hg4.cell p1 (fun e => by have := hne _ e.symm; simp at this; omega)
  have q2 := hg4.cell p2 (fun e => by have := hne _ e.symm; simp at this; omega)
  have hB4 := HB1.out.grown hg4 HB1.out.size (fun j e => hne j e)
  have hz4 := hB4.size
  simp only [List.length_nil, Nat.zero_add, List.nil_append] at ho4
  have HO4 := Lib.hid ho4
  have HT4 := Lib.hid (HT.out.below hB4 (Nat.le_refl _))
  have HR4 := Lib.hid (HR.out.below hB4 (Nat.le_refl _))
  have HB4 := Lib.hid hB4
  clear p0 p1 p2 hne ho4 hg4 hB4
  have l4 : bs.length ≤ 1000000 := by have := HN.out; omega
  rw [rounds_succ]
  go_wp2_with (at_builtin; refine wpList_append_many rfl _ _ rfl w.heap.size (.slice a4 bs.length c4) bs rfl HO4.out (.slice a2 n2 c2) cs rfl HT4.out (by have := HN.out; simp; omega) hz4 ?_; intro a5 c5 w5 ho5 hg5)
  have hne : ∀ r, (Value.slice a4 bs.length c4).ownBlock = some r → w.heap.size ≤ r := HO4.out.row
  have r2 := hg5.cell q2 (fun e => by have := hne _ e.symm; simp at this; omega)
  have hB5 := HB4.out.grown hg5 HB4.out.size (fun j e => hne j e)
  have hz5 := hB5.size
  rw [← List.length_append] at ho5 ⊢
  obtain ⟨M, hM⟩ : ∃ M, M = bs ++ cs := ⟨_, rfl⟩
  have lM : M.length ≤ 1000000 := by rw [hM, List.length_append]; have := HN.out; omega
  rw [← hM] at ho5 ⊢
  have HM := Lib.hid hM
  have HO5 := Lib.hid ho5
  have HR5 := Lib.hid (HR.out.below hB5 (Nat.le_refl _))
  have HB5 := Lib.hid hB5
  clear hne ho5 hg5 hB5 q0 q1 q2 hM
  rw [rounds_succ]
  go_wp2_with (at_builtin; refine wpList_append_many rfl _ _ rfl w.heap.size (.slice a5 M.length c5) M rfl HO5.out (.slice a0 n3 c0) ds rfl HR5.out (by have := HN.out; simp; omega) hz5 ?_; intro a6 c6 w6 ho6 hg6)
  have hne : ∀ r, (Value.slice a5 M.length c5).ownBlock = some r → w.heap.size ≤ r := HO5.out.row
  have hB6 := HB5.out.grown hg6 HB5.out.size (fun j e => hne j e)
  rw [rounds_succ]
  go_wp2
  go_ret
  exact ⟨_, rfl, by rw [← HM.out]; exact ho6, hB6⟩
end Go.Proofs.Ytlhiokcdjnmfmaa

namespace Go.Proofs.Ytlhiokcdjnmfmaa
open Go.RowKit Go.Maps
theorem intKeyed : Keyed Try.prog 2 := int_keyed Try.underlying2
theorem int_key {a : Int} (ha : WF a) : ∃ kl, keyOf Try.prog 2 (.int .i64 a) = some kl := ⟨_, keyOf_int_mk Try.underlying2 ha⟩
def iv (a : Int) : Value := .int .i64 a
theorem iv_inj {a b : Int} (h : iv a = iv b) : a = b := by simpa [iv] using h
theorem take_snoc' {l : List Int} {k : Nat} (h : k < l.length) : l.take (k + 1) = l.take k ++ [l[k]?.getD 0] := by
  rw [List.take_succ_eq_append_getElem h]; simp [h]
set_option maxRecDepth 100000 in
theorem isRenumbering_any (v : Int) (s : Value) (p : List Int) (w : World) (h : IB w s p) (hwf : ∀ z ∈ p, WF z) :
    Calls Try.prog 128 #[.int .i64 v, s] w (RV (.bool (isRen v p)) w) := by
  obtain ⟨hlen, h3⟩ := h
  have hmm := @run_makeMap Try.prog
  have HPT := Lib.hid fun a W => isPointI_any v a W
  obtain ⟨a0, c0, hs⟩ : ∃ a c, s = .slice a p.length c := by rcases h3 with ⟨a, c, rfl, rfl⟩ | ⟨b, off, cap, rfl, _⟩ <;> exact ⟨_, _, rfl⟩
  by_cases hv : (p.length : Int) = v
  · subst hv
    have hval : isRen (p.length : Int) p = rnGo (p.length : Int) [] p := by simp [isRen]
    rw [hval]
    have HW := Lib.hid hwf
    rcases h3 with ⟨a, c, rfl, rfl⟩ | ⟨b, off, cap, rfl, hlt, hI⟩
    · clear hs hval hwf
      go_enter Try.func128, Try.ntmps128
      go_wp2
      refine wp_loop_rounds 1 ?_
      rw [rounds_succ]
      go_wp2
      go_ret
      exact RV_of rfl ((Below.refl _ _).alloc (Nat.le_refl _) _)
    · clear hs hval hwf
      have HI := Lib.hid hI
      clear hI
      go_enter Try.func128, Try.ntmps128
      go_wp2
      go_loopw [15] (fun i wr => ∃ k : Nat, k ≤ p.length ∧ i = .int .i64 k ∧ BoolSet wr Try.prog 2 4 w.heap.size k ((p.take k).map iv) ∧ Below w.heap.size w wr ∧ Hid (rnGo (p.length : Int) [] p = rnGo (p.length : Int) (p.take k) (p.drop k))) (fun i _ => p.length - (intOf i).toNat)
      case atStart => exact ⟨0, Nat.zero_le _, rfl, BoolSet.made _ _ _ _, (Below.refl _ _).alloc (Nat.le_refl _) _, Lib.hid (by simp)⟩
      case round =>
        obtain ⟨k, hk, rfl, hS, hB, HE⟩ := hrel
        have hsz := hB.size
        have hltB := hS.lt
        by_cases hkl : k < p.length
        · have c0 := (hB.cell (p := ⟨b, off + k, none⟩) hlt).trans (HI.out k hkl)
          have hmem : (p[k]?.getD 0) ∈ p := by rw [List.getElem?_eq_getElem hkl]; exact List.getElem_mem hkl
          have hts := take_snoc' hkl
          have hdr : p.drop k = (p[k]?.getD 0) :: p.drop (k + 1) := by rw [List.drop_eq_getElem_cons hkl]; simp [hkl]
          obtain ⟨z, hz⟩ : ∃ z, z = p[k]?.getD 0 := ⟨_, rfl⟩
          rw [← hz] at c0 hmem hts hdr
          rw [hdr] at HE
          obtain ⟨k1, hk1⟩ := int_key (HW.out z hmem)
          have HK1 := Lib.hid hk1
          have TS := Lib.hid hts
          have g0 : (0 : Int) ≤ (k : Int) := by omega
          have g1 : (k : Int) < (p.length : Int) := by omega
          clear hz hts hdr hk1 hmem
          have hput : ∀ w', BoolSet w' Try.prog 2 4 w.heap.size (k + 1) ((p.take k).map iv ++ [iv z]) → BoolSet w' Try.prog 2 4 w.heap.size (k + 1) ((p.take (k + 1)).map iv) := fun w' h => by rw [TS.out, List.map_append]; exact h
          have HPUT := Lib.hid hput
          have hmm : ∀ β : Bool, Hid (β = true ↔ iv z ∈ (p.take k).map iv) → (β = true ↔ z ∈ p.take k) := fun β h => h.out.trans ⟨fun h => by obtain ⟨q, hq, e⟩ := List.mem_map.1 h; rw [← iv_inj e]; exact hq, fun h => List.mem_map.2 ⟨z, h, rfl⟩⟩
          have HM := Lib.hid hmm
          clear hput hmm
          cases hin : inP (p.length : Int) z with
          | false =>
            have HIN := Lib.hid hin
            have hpt := HPT.out z
            rw [hin] at hpt
            have HP1 := Lib.hid hpt
            clear hin hpt
            go_wp2_with (go_at_call 151; refine (HP1.out _).mono ?_; rintro e w' ⟨rfl, rfl⟩)
            go_ret
            exact RV_of (bool_eq (by rw [HE.out, rnGo_bad HIN.out])) hB
          | true =>
            have HIN := Lib.hid hin
            have hpt := HPT.out z
            rw [hin] at hpt
            have HP1 := Lib.hid hpt
            clear hin hpt
            obtain ⟨β1, hrun, hβ1⟩ : ∃ β : Bool, (Instr.lookup 155 (.map (some w.heap.size)) (.int .i64 z) false).run Try.prog wr = .ok (.bool β) wr ∧ (β = true ↔ iv z ∈ (p.take k).map iv) := hS.look intKeyed Try.underlying155 Try.underlying4 (zeroBool _) HK1.out
            have hb1 := HM.out β1 (Lib.hid hβ1)
            by_cases hsn : z ∈ p.take k
            · have HSN := Lib.hid hsn
              obtain rfl : β1 = true := hb1.2 hsn
              clear hsn hb1 hβ1
              go_wp2_with (go_at_call 151; refine (HP1.out _).mono ?_; rintro e w' ⟨rfl, rfl⟩)
              go_ret
              exact RV_of (bool_eq (by rw [HE.out, rnGo_dup HSN.out])) hB
            · have HSN := Lib.hid hsn
              obtain rfl : β1 = false := Bool.eq_false_iff.2 (fun h => hsn (hb1.1 h))
              clear hsn hb1 hβ1
              go_wp2_with (first | (go_at_call 151; refine (HP1.out _).mono ?_; rintro e w' ⟨rfl, rfl⟩) | (at_mapUpdate; refine wpList_put_set _ rfl _ _ _ 155 rfl 2 4 intKeyed Try.underlying155 Try.underlying4 w.heap.size k ((p.take k).map iv) rfl hS (by unfold maxLen; omega) (iv z) k1 rfl rfl HK1.out ?_; intro w3 hS3 hg3))
              have hB3 := hB.grown hg3 hsz (fun j e => by cases e; exact Nat.le_refl _)
              go_roundw
              case rel => exact ⟨k + 1, by omega, by go_num, HPUT.out _ hS3, hB3, Lib.hid (by rw [HE.out, rnGo_next HIN.out HSN.out, TS.out])⟩
              case measure => simp [intOf]; omega
        · go_wp2
          go_ret
          exact RV_of (bool_eq (by rw [HE.out, List.drop_eq_nil_of_le (by omega), rnGo])) hB
  · have hval : isRen v p = false := by simp [isRen, hv]
    rw [hval]
    have hd : ((p.length : Int) != v) = true := by simpa using hv
    subst hs
    clear hval h3 hv hwf
    go_enter Try.func128, Try.ntmps128
    go_wp2
    go_ret
    exact RV_of rfl (Below.refl _ _)
end Go.Proofs.Ytlhiokcdjnmfmaa

namespace Go.Proofs.Ytlhiokcdjnmfmaa
open Go.RowKit Go.Maps
set_option maxRecDepth 100000 in
set_option maxHeartbeats 2000000 in
theorem columnOf_any (s : Value) (n : Nat) (F : Nat → List Int) (y : Nat) (w : World) (h : SSB w s n F) (hy : ∀ k, k < n → y < (F k).length) :
    Calls Try.prog 129 #[s, .int .i64 (y : Int)] w (fun e w' => ∃ u, e = .returned u ∧ OwnJ w' w.heap.size u (col n F y) ∧ Below w.heap.size w w') := by
  have hn := h.1
  obtain ⟨a, c, rfl⟩ := h.slice
  have HROW := Lib.hid h.rows
  have HY := Lib.hid hy
  clear h hy
  go_enter Try.func129, Try.ntmps129
  obtain ⟨W0, rfl⟩ : ∃ W0, W0 = w := ⟨_, rfl⟩
  go_wp2_with fail
  go_loopw [5, 10] (fun o i wr => ∃ k : Nat, k ≤ n ∧ i = .int .i64 k ∧ Below W0.heap.size W0 wr ∧ OwnJ wr W0.heap.size o (colK F y k) ∧ ∃ a n c, o = .slice a n c) (fun _ i _ => n - (intOf i).toNat)
  case atStart => exact ⟨0, Nat.zero_le _, rfl, Below.refl _ _, OwnJ.nil _ _, _, _, _, rfl⟩
  case round =>
    obtain ⟨k, hk, rfl, hB, hO, hform⟩ := hrel
    have hz := hB.size
    obtain ⟨a3, n3, c3, rfl⟩ := hform
    have HO := Lib.hid hO
    have HB := Lib.hid hB
    by_cases hkl : k < n
    · obtain ⟨b, off, a', c', rfl, hlt, hc, hi⟩ := HROW.out k hkl
      have q := (hB.cell (p := ⟨b, off + k, none⟩) hlt).trans hc
      have hyk := HY.out k hkl
      have hi' := hi.below hB (Nat.le_refl _)
      rcases hi'.2 with ⟨_, _, _, h0⟩ | ⟨b', off', cap', e', hlt', hr'⟩
      · rw [h0] at hyk; exact absurd hyk (Nat.not_lt_zero _)
      · simp at e'
        obtain ⟨rfl, rfl⟩ := e'
        have q2 := hr' y hyk
        have hS := colK_succ F y k
        have hl : (colK F y k).length ≤ k := Nat.le_of_eq (colK_len F y k)
        obtain ⟨z, hz'⟩ : ∃ z, z = (F k)[y]?.getD 0 := ⟨_, rfl⟩
        rw [← hz'] at q2 hS
        have HS := Lib.hid hS
        obtain ⟨m, hm⟩ : ∃ m, m = (F k).length := ⟨_, rfl⟩
        rw [← hm] at q hyk
        clear hB hO hc hi hi' hr' hS hz' hm
        have g0 : (0 : Int) ≤ (y : Int) := by omega
        have g1 : (y : Int) < (m : Int) := by omega
        go_wp2_with (at_builtin; refine wpList_append_int rfl _ _ rfl W0.heap.size _ (colK F y k) rfl (HO.out.below ((Below.refl _ _).alloc (Nat.le_refl _) _) (Nat.le_refl _)) _ _ z rfl (by simp [go_sem]) (by omega) (by simp; omega) ?_; intro g' cap' w4 hO4 hg4)
        have hrow := HO.out.row
        have hgo : wr.grownBy w4 (Value.slice a3 n3 c3).ownBlock := ⟨hg4.os, hg4.tape, hg4.output, by have := hg4.size; simp at this; omega, fun i hi hne => by
          rw [hg4.block i (by simp; omega) hne, Below.heap_alloc _ _ _ hi]⟩
        clear hg4
        go_roundw
        case rel => exact ⟨k + 1, by omega, by go_num, HB.out.grown hgo hz (fun j e => hrow j e), by rw [HS.out]; exact hO4, _, _, _, rfl⟩
        case measure => simp [intOf]; omega
    · go_wp2
      go_ret
      have e : k = n := by omega
      subst e
      exact ⟨_, rfl, HO.out, HB.out⟩
end Go.Proofs.Ytlhiokcdjnmfmaa

namespace Go.Proofs.Ytlhiokcdjnmfmaa
open Go.RowKit Go.Maps
/-- What a door of the program's recovers: a code. -/
def codeP (κ : Int) : PanicEntry := { v := .iface 115 (.int .i64 κ), recovered := false }
/-- The value, or the panic with a code; old memory stays. -/
def RP (good : Bool) (v : Value) (κ : Int) (w : World) (e : Ending) (w' : World) : Prop := (if good = true then e = .returned v else e = .panicked [codeP κ]) ∧ Below w.heap.size w w'
theorem RP_yes {good : Bool} {v : Value} {κ : Int} {w w' : World} (h : good = true) (hb : Below w.heap.size w w') : RP good v κ w (.returned v) w' := ⟨by rw [if_pos h], hb⟩
theorem RP_no {good : Bool} {v : Value} {κ : Int} {w w' : World} (h : good = false) (hb : Below w.heap.size w w') : RP good v κ w (.panicked [codeP κ]) w' := ⟨by rw [if_neg (by rw [h]; decide)], hb⟩
set_option maxRecDepth 100000 in
set_option maxHeartbeats 4000000 in
theorem checkedSquare_any (s : Value) (n : Nat) (F : Nat → List Int) (w : World) (h : SSB w s n F) (hwf : ∀ k, k < n → ∀ z ∈ F k, WF z) :
    Calls Try.prog 75 #[s] w (RP (sqB n F) s 2 w) := by
  have hn := h.1
  have HSS := Lib.hid h
  obtain ⟨a, c, rfl⟩ := h.slice
  have HROW := Lib.hid h.rows
  have HWF := Lib.hid hwf
  clear h hwf
  by_cases h2 : 2 ≤ n
  case neg =>
    have hg := Lib.hid (show sqB n F = false by simp [sqB, h2])
    have d1 : decide ((n : Int) < 2) = true := by simp; omega
    clear h2
    go_enter Try.func75, Try.ntmps75
    go_wp2
    exact ⟨rfl, RP_no hg.out (Below.refl _ _)⟩
  by_cases h5 : n ≤ 5
  case neg =>
    have hg := Lib.hid (show sqB n F = false by simp [sqB, h5])
    have d1 : decide ((n : Int) < 2) = false := by simp; omega
    have d2 : decide (5 < (n : Int)) = true := by simp; omega
    clear h2 h5
    go_enter Try.func75, Try.ntmps75
    go_wp2
    exact ⟨rfl, RP_no hg.out (Below.refl _ _)⟩
  have HG := Lib.hid (show sqB n F = (rowsOk n n F && colsOk n n F) by simp [sqB, h2, h5])
  have d1 : decide ((n : Int) < 2) = false := by simp; omega
  have d2 : decide (5 < (n : Int)) = false := by simp; omega
  go_enter Try.func75, Try.ntmps75
  obtain ⟨W0, rfl⟩ : ∃ W0, W0 = w := ⟨_, rfl⟩
  go_wp2_with fail
  go_loopw [18] (fun i wr => ∃ k : Nat, k ≤ n ∧ i = .int .i64 k ∧ Below W0.heap.size W0 wr ∧ rowsOk n k F = true) (fun i _ => n - (intOf i).toNat)
  case atStart => exact ⟨0, Nat.zero_le _, rfl, Below.refl _ _, rfl⟩
  case round =>
    obtain ⟨k, hk, rfl, hB, hok⟩ := hrel
    have HB := Lib.hid hB
    have HOK := Lib.hid hok
    have hz := hB.size
    clear hB hok
    by_cases hkl : k < n
    · obtain ⟨b, off, a', c', rfl, hlt, hc, hi⟩ := HROW.out k hkl
      have q := (HB.out.cell (p := ⟨b, off + k, none⟩) hlt).trans hc
      have HR := Lib.hid (isRenumbering_any (n : Int) _ (F k) wr (hi.below HB.out (Nat.le_refl _)) (HWF.out k hkl))
      clear hc hi
      cases hr : isRen (n : Int) (F k) with
      | true =>
        rw [hr] at HR
        have HS := Lib.hid (show rowsOk n (k + 1) F = true by rw [rowsOk_succ, HOK.out, hr]; rfl)
        clear hr
        go_wp2_with fail
        refine HR.out.mono ?_
        rintro e w2 ⟨rfl, hb2⟩
        have HB2 := Lib.hid (HB.out.trans (hb2.mono hz))
        clear hb2
        go_wp2_with fail
        go_roundw
        case rel => exact ⟨k + 1, by omega, by go_num, HB2.out, HS.out⟩
        case measure => simp [intOf]; omega
      | false =>
        rw [hr] at HR
        have HS := Lib.hid (show sqB n F = false by rw [HG.out, rowsOk_false hkl hr]; rfl)
        clear hr
        go_wp2_with fail
        refine HR.out.mono ?_
        rintro e w2 ⟨rfl, hb2⟩
        have HB2 := Lib.hid (HB.out.trans (hb2.mono hz))
        clear hb2
        go_wp2
        exact ⟨rfl, RP_no HS.out HB2.out⟩
    · have e : k = n := by omega
      subst e
      clear hkl hk
      go_wp2_with fail
      go_loopw [29] (fun i wr => ∃ y : Nat, y ≤ k ∧ i = .int .i64 y ∧ Below W0.heap.size W0 wr ∧ colsOk k y F = true) (fun i _ => k - (intOf i).toNat)
      case atStart => exact ⟨0, Nat.zero_le _, rfl, HB.out, rfl⟩
      case round =>
        obtain ⟨y, hy, rfl, hB1, hok1⟩ := hrel
        have HB1 := Lib.hid hB1
        have HOK1 := Lib.hid hok1
        have hz1 := hB1.size
        clear hB1 hok1
        by_cases hyl : y < k
        · have HC := Lib.hid (columnOf_any _ k F y _ (HSS.out.below HB1.out (Nat.le_refl _)) (fun j hj => by rw [isRen_len (rowsOk_at HOK.out hj)]; exact hyl))
          go_wp2_with fail
          refine HC.out.mono ?_
          rintro e w2 ⟨u2, rfl, ho2, hb2⟩
          have HB2 := Lib.hid (HB1.out.trans (hb2.mono hz1))
          have hwc : ∀ z ∈ col k F y, WF z := fun z hz => by
            obtain ⟨i, hi, rfl⟩ := List.mem_map.1 hz
            have hi := List.mem_range.1 hi
            have hl := isRen_len (rowsOk_at HOK.out hi)
            refine HWF.out i hi _ ?_
            rw [List.getElem?_eq_getElem (by omega), Option.getD_some]
            exact List.getElem_mem _
          have HR := Lib.hid (isRenumbering_any (k : Int) u2 (col k F y) w2 (ho2.ib (by rw [col_len]; omega)) hwc)
          have hz2 := HB2.out.size
          clear ho2 hb2 hwc HC
          cases hr : isRen (k : Int) (col k F y) with
          | true =>
            rw [hr] at HR
            have HS := Lib.hid (show colsOk k (y + 1) F = true by rw [colsOk_succ, HOK1.out, hr]; rfl)
            clear hr
            go_wp2_with fail
            refine HR.out.mono ?_
            rintro e w3 ⟨rfl, hb3⟩
            have HB3 := Lib.hid (HB2.out.trans (hb3.mono hz2))
            clear hb3
            go_wp2_with fail
            go_roundw
            case rel => exact ⟨y + 1, by omega, by go_num, HB3.out, HS.out⟩
            case measure => simp [intOf]; omega
          | false =>
            rw [hr] at HR
            have HS := Lib.hid (show sqB k F = false by rw [HG.out, colsOk_false hyl hr, Bool.and_false])
            clear hr
            go_wp2_with fail
            refine HR.out.mono ?_
            rintro e w3 ⟨rfl, hb3⟩
            have HB3 := Lib.hid (HB2.out.trans (hb3.mono hz2))
            clear hb3
            go_wp2
            exact ⟨rfl, RP_no HS.out HB3.out⟩
        · have e : y = k := by omega
          subst e
          have HS := Lib.hid (show sqB y F = true by rw [HG.out, HOK.out, HOK1.out]; rfl)
          go_wp2
          go_ret
          exact RP_yes HS.out HB1.out
end Go.Proofs.Ytlhiokcdjnmfmaa

namespace Go.Proofs.Ytlhiokcdjnmfmaa
open Go.RowKit Go.Maps
theorem sq_range {n : Nat} {F : Nat → List Int} (h : sqB n F = true) : 2 ≤ n ∧ n ≤ 5 ∧ (∀ k, k < n → (F k).length = n) ∧ ∀ x y, x < n → y < n → 0 ≤ at2 F x y ∧ at2 F x y < (n : Int) := by
  simp only [sqB, Bool.and_eq_true, decide_eq_true_eq] at h
  obtain ⟨⟨⟨h2, h5⟩, hr⟩, _⟩ := h
  have hl : ∀ k, k < n → (F k).length = n := fun k hk => isRen_len (rowsOk_at hr hk)
  refine ⟨h2, h5, hl, fun x y hx hy => ?_⟩
  have hi := rowsOk_at hr hx
  simp only [isRen, Bool.and_eq_true] at hi
  have := rnGo_in hi.2 (at2 F x y) (by
    unfold at2
    have := hl x hx
    rw [List.getElem?_eq_getElem (by omega), Option.getD_some]
    exact List.getElem_mem _)
  rw [inP] at this
  simpa using this
theorem thrL_len {n : Nat} (F : Nat → List Int) (hn : n ≤ 5) : (thrL n F).length ≤ 200 := by
  have e1 : 3 * (n * n) ≤ 3 * (5 * 5) := Nat.mul_le_mul_left _ (Nat.mul_le_mul hn hn)
  have l1 := slL_len n F 3
  have l2 := tipL_len n (n / 2)
  unfold thrL
  split
  · simp only [List.length_append, upL_len]; omega
  · simp only [List.length_append, upL_len]; omega
def thrV (n : Nat) (F : Nat → List Int) : Int := if diaB n F n = true then 3 * (n : Int) else 3 * (n : Int) + 1
def thrG (n : Nat) (F : Nat → List Int) : Bool := comB n F && (diaB n F n || halfB n F)
def RT (n : Nat) (F : Nat → List Int) (w : World) (e : Ending) (w' : World) : Prop :=
  (if thrG n F = true then ∃ a m c, e = .returned (.agg #[.int .i64 (thrV n F), .slice a m c]) ∧ ResR w' w.heap.size w'.heap.size (.slice a m c) (sortB (thrL n F)) else e = .panicked [codeP 5]) ∧ Below w.heap.size w w'
set_option maxRecDepth 100000 in
set_option maxHeartbeats 4000000 in
theorem threefoldOf_any (s : Value) (n : Nat) (F : Nat → List Int) (w : World) (h : SSB w s n F) (hsq : sqB n F = true) :
    Calls Try.prog 74 #[s] w (RT n F w) := by
  obtain ⟨h2, h5, hl, hr⟩ := sq_range hsq
  have HSS := Lib.hid h
  obtain ⟨a, c, rfl⟩ := h.slice
  have H1 := Lib.hid fun W (hb : Below w.heap.size w W) => isCommutative_any _ n F W (HSS.out.below hb (Nat.le_refl _)) hl
  have H2 := Lib.hid fun W (hb : Below w.heap.size w W) => isIdempotent_any _ n F W h2 h5 (HSS.out.below hb (Nat.le_refl _)) hl
  have H3 := Lib.hid fun W (hb : Below w.heap.size w W) => isHalfIdempotent_any _ n F W h2 h5 (HSS.out.below hb (Nat.le_refl _)) hl
  have HU := Lib.hid fun K (hK : K ≤ 5) W => uprightBlocks_any n K h5 hK W
  have HT := Lib.hid fun W => tipBlocks_any n (n / 2) h5 rfl W
  have HSL := Lib.hid fun W (hb : Below w.heap.size w W) => slantBlocks_any _ n F h5 W (HSS.out.below hb (Nat.le_refl _)) hl hr
  have HLEN := Lib.hid (thrL_len F h5)
  have hb0 : Below w.heap.size w (w.alloc (.cells #[.int .i64 0, .slice none 0 0] 31)) := (Below.refl _ _).alloc (Nat.le_refl _) _
  clear h hsq hl hr
  cases hc : comB n F with
  | false =>
    have hg : thrG n F = false := by simp [thrG, hc]
    rw [hc] at H1
    unfold RT
    rw [hg]
    clear hc hg
    go_enter Try.func74, Try.ntmps74
    go_wp2_with fail
    refine (H1.out _ hb0).mono ?_
    rintro e w1 ⟨rfl, hb1⟩
    have hB1 := below_new hb1
    go_wp2_with fail
    exact ⟨rfl, rfl, hB1⟩
  | true =>
    rw [hc] at H1
    cases hi : diaB n F n with
    | true =>
      have hg : thrG n F = true := by simp [thrG, hc, hi]
      have hv : thrV n F = 3 * (n : Int) := by simp [thrV, hi]
      have hL : thrL n F = upL n n ++ slL n F 3 := by unfold thrL; rw [if_pos hi]
      rw [hi] at H2
      unfold RT
      obtain ⟨M, hM⟩ : ∃ M, M = thrL n F := ⟨_, rfl⟩
      rw [hg, hv, ← hM]
      have HML := Lib.hid (show M = upL n n ++ slL n F 3 by rw [hM, hL])
      rw [← hM] at HLEN
      clear hc hi hg hv hL hM
      go_enter Try.func74, Try.ntmps74
      go_wp2_with fail
      refine (H1.out _ hb0).mono ?_
      rintro e w1 ⟨rfl, hb1⟩
      have hB1 := below_new hb1
      have hz1 := hb1.size
      simp at hz1
      have d0 : w1.cell? ⟨w.heap.size, 0, none⟩ = some (.int .i64 0) := (hb1.cell (p := ⟨w.heap.size, 0, none⟩) (by simp)).trans (by simp [go_sem])
      have d1 : w1.cell? ⟨w.heap.size, 1, none⟩ = some (.slice none 0 0) := (hb1.cell (p := ⟨w.heap.size, 1, none⟩) (by simp)).trans (by simp [go_sem])
      have f0 : w1.frozen? ⟨w.heap.size, 0, none⟩ = false := (hb1.frozen (p := ⟨w.heap.size, 0, none⟩) (by simp)).trans (by simp [go_sem])
      have f1 : w1.frozen? ⟨w.heap.size, 1, none⟩ = false := (hb1.frozen (p := ⟨w.heap.size, 1, none⟩) (by simp)).trans (by simp [go_sem])
      clear hb1 hb0
      go_wp2_with fail
      refine (H2.out _ hB1).mono ?_
      rintro e w2 ⟨rfl, hb2⟩
      have hB2 := hB1.trans (hb2.mono (by omega))
      have hz2 := hb2.size
      go_wp2_with fail
      refine (HU.out n h5 _).mono ?_
      rintro e w3 ⟨u3, rfl, ho3, hb3⟩
      obtain ⟨a3, c3, hu3⟩ := ho3.form
      subst hu3
      have hB3 := hB2.trans (hb3.mono (by omega))
      have hz3 := hb3.size
      go_wp2_with fail
      refine (HSL.out _ hB3).mono ?_
      rintro e w4 ⟨u4, rfl, ho4, hb4⟩
      obtain ⟨a4, c4, hu4⟩ := ho4.form
      subst hu4
      have hB4 := hB3.trans (hb4.mono (by omega))
      have hz4 := hb4.size
      have S3 := (ho3.sx.below hb4 (Nat.le_refl _)).below ((Below.refl w4.heap.size w4).alloc (Nat.le_refl _) (.cells #[.slice a3 (upL n n).length c3, .slice a4 (slL n F 3).length c4] 29)) (Nat.le_refl _)
      have S4 := ho4.sx.below ((Below.refl w4.heap.size w4).alloc (Nat.le_refl _) (.cells #[.slice a3 (upL n n).length c3, .slice a4 (slL n F 3).length c4] 29)) (Nat.le_refl _)
      have hle := HLEN.out
      rw [HML.out, List.length_append] at hle
      have HCC := Lib.hid (concat2_any w4.heap.size _ _ (upL n n) (slL n F 3) _ (by simp [go_sem]) (by simp [go_sem]) S3 S4 (by omega) (by omega))
      have hb12 := hb2.trans ((hb3.mono hz2).trans (hb4.mono (by omega)))
      rw [← HML.out] at HCC
      clear hle
      clear ho3 ho4 S3 S4 hb2 hb3 hb4 hB1 hB2 hB3
      go_wp2_with fail
      refine HCC.out.mono ?_
      rintro e w5 ⟨u5, rfl, ho5, hb5⟩
      have hB5 : Below w4.heap.size w4 w5 := ((Below.refl _ _).alloc (Nat.le_refl _) _).trans (hb5.mono (by simp))
      obtain ⟨a5, c5, hu5⟩ := ho5.form
      subst hu5
      have hz5 := hB5.size
      have HSY := Lib.hid (systemFrom_any (3 * (n : Int)) _ _ M w5 ho5 (by have := HLEN.out; omega) (hb5.size))
      have hb15 := hb12.trans (hB5.mono (by omega))
      have hB5w := hB4.trans (hB5.mono (by omega))
      have hro := ho5.row
      clear ho5 hb5 HCC hb12
      have y0 : w5.cell? ⟨w.heap.size, 0, none⟩ = some (.int .i64 0) := (hb15.cell (p := ⟨w.heap.size, 0, none⟩) (by simp; omega)).trans d0
      have y1 : w5.cell? ⟨w.heap.size, 1, none⟩ = some (.slice none 0 0) := (hb15.cell (p := ⟨w.heap.size, 1, none⟩) (by simp; omega)).trans d1
      have y2 : w5.frozen? ⟨w.heap.size, 0, none⟩ = false := (hb15.frozen (p := ⟨w.heap.size, 0, none⟩) (by simp; omega)).trans f0
      have y3 : w5.frozen? ⟨w.heap.size, 1, none⟩ = false := (hb15.frozen (p := ⟨w.heap.size, 1, none⟩) (by simp; omega)).trans f1
      clear d0 d1 f0 f1 hb15 hB4
      go_wp2_with fail
      refine HSY.out.mono ?_
      rintro e w6 ⟨rfl, ho6, hg6⟩
      have hrr : ∀ r, (Value.slice a5 M.length c5).ownBlock = some r → w.heap.size < r := fun r e => by have := hro r e; simp at this; omega
      have z0 := keep_cell y0 hg6 (fun r e => hrr r e)
      have z1 := keep_cell y1 hg6 (fun r e => hrr r e)
      have z2 := keep_frozen y0 y2 hg6 (fun r e => hrr r e)
      have z3 := keep_frozen y1 y3 hg6 (fun r e => hrr r e)
      have hB6 := hB5w.grown hg6 (by omega) (fun r e => by have := hrr r e; omega)
      have hres := ho6.res
      have hz6 := hg6.size
      clear y0 y1 y2 y3 ho6 hg6 hrr hro HSY
      go_wp2
      have hfin := (hres.kept (gb_set2 w6 w.heap.size (.int .i64 (3 * (n : Int))) (.slice a5 M.length c5)) (fun r e => by cases e; exact .inl (by simp; omega))).wide (lo' := w.heap.size) (by simp; omega) (gb_set2 w6 w.heap.size (.int .i64 (3 * (n : Int))) (.slice a5 M.length c5)).size
      exact bodyPost_ret (v := .agg #[.int .i64 (3 * (n : Int)), .slice a5 M.length c5]) (by simp [results, Try.results74, go_sem, *]) rfl ⟨⟨_, _, _, rfl, hfin⟩, below_set2 hB6 (Nat.le_refl _) _ _⟩
    | false =>
      rw [hi] at H2
      obtain ⟨m, hm⟩ : ∃ m, m = n / 2 := ⟨_, rfl⟩
      have htd : (n : Int).tdiv 2 = (m : Int) := by rw [Int.tdiv_eq_ediv_of_nonneg (by omega), hm]; omega
      have hm5 : m ≤ 5 := by omega
      rw [← hm] at HT
      cases hh : halfB n F with
      | false =>
        have hg : thrG n F = false := by simp [thrG, hc, hi, hh]
        rw [hh] at H3
        unfold RT
        rw [hg]
        clear hc hi hh hg hm
        go_enter Try.func74, Try.ntmps74
        go_wp2_with fail
        refine (H1.out _ hb0).mono ?_
        rintro e w1 ⟨rfl, hb1⟩
        have hB1 := below_new hb1
        have hz1 := hb1.size
        simp at hz1
        clear hb1 hb0
        go_wp2_with fail
        refine (H2.out _ hB1).mono ?_
        rintro e w2 ⟨rfl, hb2⟩
        have hB2 := hB1.trans (hb2.mono (by omega))
        go_wp2_with fail
        refine (H3.out _ hB2).mono ?_
        rintro e w3 ⟨rfl, hb3⟩
        have hB3 := hB2.trans (hb3.mono hB2.size)
        go_wp2_with fail
        exact ⟨rfl, rfl, hB3⟩
      | true =>
      have hg : thrG n F = true := by simp [thrG, hc, hi, hh]
      have hv : thrV n F = 3 * (n : Int) + 1 := by simp [thrV, hi]
      have hL : thrL n F = upL n m ++ tipL n m ++ slL n F 3 := by unfold thrL; rw [if_neg (by rw [hi]; decide), hm]
      rw [hh] at H3
      unfold RT
      obtain ⟨M, hM⟩ : ∃ M, M = thrL n F := ⟨_, rfl⟩
      rw [hg, hv, ← hM]
      have HML := Lib.hid (show M = upL n m ++ tipL n m ++ slL n F 3 by rw [hM, hL])
      rw [← hM] at HLEN
      clear hc hi hh hg hv hL hM hm
      go_enter Try.func74, Try.ntmps74
      go_wp2_with fail
      refine (H1.out _ hb0).mono ?_
      rintro e w1 ⟨rfl, hb1⟩
      have hB1 := below_new hb1
      have hz1 := hb1.size
      simp at hz1
      have d0 : w1.cell? ⟨w.heap.size, 0, none⟩ = some (.int .i64 0) := (hb1.cell (p := ⟨w.heap.size, 0, none⟩) (by simp)).trans (by simp [go_sem])
      have d1 : w1.cell? ⟨w.heap.size, 1, none⟩ = some (.slice none 0 0) := (hb1.cell (p := ⟨w.heap.size, 1, none⟩) (by simp)).trans (by simp [go_sem])
      have f0 : w1.frozen? ⟨w.heap.size, 0, none⟩ = false := (hb1.frozen (p := ⟨w.heap.size, 0, none⟩) (by simp)).trans (by simp [go_sem])
      have f1 : w1.frozen? ⟨w.heap.size, 1, none⟩ = false := (hb1.frozen (p := ⟨w.heap.size, 1, none⟩) (by simp)).trans (by simp [go_sem])
      clear hb1 hb0
      go_wp2_with fail
      refine (H2.out _ hB1).mono ?_
      rintro e w2 ⟨rfl, hb2⟩
      have hB2 := hB1.trans (hb2.mono (by omega))
      have hz2 := hb2.size
      go_wp2_with fail
      refine (H3.out _ hB2).mono ?_
      rintro e w2b ⟨rfl, hb2b⟩
      have hB2b := hB2.trans (hb2b.mono (by omega))
      have hz2b := hb2b.size
      go_wp2_with fail
      refine (HU.out m hm5 _).mono ?_
      rintro e w3 ⟨u3, rfl, ho3, hb3⟩
      obtain ⟨a3, c3, hu3⟩ := ho3.form
      subst hu3
      have hB3 := hB2b.trans (hb3.mono (by omega))
      have hz3 := hb3.size
      go_wp2_with fail
      refine (HT.out _).mono ?_
      rintro e w3b ⟨u3b, rfl, ho3b, hb3b⟩
      obtain ⟨a3b, c3b, hu3b⟩ := ho3b.form
      subst hu3b
      have hB3b := hB3.trans (hb3b.mono (by omega))
      have hz3b := hb3b.size
      go_wp2_with fail
      refine (HSL.out _ hB3b).mono ?_
      rintro e w4 ⟨u4, rfl, ho4, hb4⟩
      obtain ⟨a4, c4, hu4⟩ := ho4.form
      subst hu4
      have hB4 := hB3b.trans (hb4.mono (by omega))
      have hz4 := hb4.size
      have hal := (Below.refl w4.heap.size w4).alloc (Nat.le_refl _) (.cells #[.slice a3 (upL n m).length c3, .slice a3b (tipL n m).length c3b, .slice a4 (slL n F 3).length c4] 29)
      have S3 := ((ho3.sx.below hb3b (Nat.le_refl _)).below hb4 (Nat.le_refl _)).below hal (Nat.le_refl _)
      have S3b := (ho3b.sx.below hb4 (Nat.le_refl _)).below hal (Nat.le_refl _)
      have S4 := ho4.sx.below hal (Nat.le_refl _)
      have hle := HLEN.out
      rw [HML.out, List.length_append, List.length_append] at hle
      have HCC := Lib.hid (concat3_any w4.heap.size _ _ _ (upL n m) (tipL n m) (slL n F 3) _ (by simp [go_sem]) (by simp [go_sem]) (by simp [go_sem]) S3 S3b S4 (by omega) (by omega) (by omega))
      have hb12 := hb2.trans ((hb2b.mono hz2).trans ((hb3.mono (by omega)).trans ((hb3b.mono (by omega)).trans (hb4.mono (by omega)))))
      rw [← HML.out] at HCC
      clear hle
      clear ho3 ho3b ho4 S3 S3b S4 hb2 hb2b hb3 hb3b hb4 hB1 hB2 hB2b hB3 hB3b hal
      go_wp2_with fail
      refine HCC.out.mono ?_
      rintro e w5 ⟨u5, rfl, ho5, hb5⟩
      have hB5 : Below w4.heap.size w4 w5 := ((Below.refl _ _).alloc (Nat.le_refl _) _).trans (hb5.mono (by simp))
      obtain ⟨a5, c5, hu5⟩ := ho5.form
      subst hu5
      have hz5 := hB5.size
      have HSY := Lib.hid (systemFrom_any (3 * (n : Int) + 1) _ _ M w5 ho5 (by have := HLEN.out; omega) (hb5.size))
      have hb15 := hb12.trans (hB5.mono (by omega))
      have hB5w := hB4.trans (hB5.mono (by omega))
      have hro := ho5.row
      clear ho5 hb5 HCC hb12
      have y0 : w5.cell? ⟨w.heap.size, 0, none⟩ = some (.int .i64 0) := (hb15.cell (p := ⟨w.heap.size, 0, none⟩) (by simp; omega)).trans d0
      have y1 : w5.cell? ⟨w.heap.size, 1, none⟩ = some (.slice none 0 0) := (hb15.cell (p := ⟨w.heap.size, 1, none⟩) (by simp; omega)).trans d1
      have y2 : w5.frozen? ⟨w.heap.size, 0, none⟩ = false := (hb15.frozen (p := ⟨w.heap.size, 0, none⟩) (by simp; omega)).trans f0
      have y3 : w5.frozen? ⟨w.heap.size, 1, none⟩ = false := (hb15.frozen (p := ⟨w.heap.size, 1, none⟩) (by simp; omega)).trans f1
      clear d0 d1 f0 f1 hb15 hB4
      go_wp2_with fail
      refine HSY.out.mono ?_
      rintro e w6 ⟨rfl, ho6, hg6⟩
      have hrr : ∀ r, (Value.slice a5 M.length c5).ownBlock = some r → w.heap.size < r := fun r e => by have := hro r e; simp at this; omega
      have z0 := keep_cell y0 hg6 (fun r e => hrr r e)
      have z1 := keep_cell y1 hg6 (fun r e => hrr r e)
      have z2 := keep_frozen y0 y2 hg6 (fun r e => hrr r e)
      have z3 := keep_frozen y1 y3 hg6 (fun r e => hrr r e)
      have hB6 := hB5w.grown hg6 (by omega) (fun r e => by have := hrr r e; omega)
      have hres := ho6.res
      have hz6 := hg6.size
      clear y0 y1 y2 y3 ho6 hg6 hrr hro HSY
      go_wp2
      have hfin := (hres.kept (gb_set2 w6 w.heap.size (.int .i64 (3 * (n : Int) + 1)) (.slice a5 M.length c5)) (fun r e => by cases e; exact .inl (by simp; omega))).wide (lo' := w.heap.size) (by simp; omega) (gb_set2 w6 w.heap.size (.int .i64 (3 * (n : Int) + 1)) (.slice a5 M.length c5)).size
      exact bodyPost_ret (v := .agg #[.int .i64 (3 * (n : Int) + 1), .slice a5 M.length c5]) (by simp [results, Try.results74, go_sem, *]) rfl ⟨⟨_, _, _, rfl, hfin⟩, below_set2 hB6 (Nat.le_refl _) _ _⟩
end Go.Proofs.Ytlhiokcdjnmfmaa

namespace Go.Proofs.Ytlhiokcdjnmfmaa
open Go.RowKit Go.Maps
theorem assert_nil (w : World) : Sem.run Try.prog (Instr.typeAssert .nilIface 20 115 true) w = .ok (.tuple #[.int .i64 0, .bool false]) w := by kernel_rfl
theorem assert_code (κ : Int) (w : World) : Sem.run Try.prog (Instr.typeAssert (.iface 115 (.int .i64 κ)) 20 115 true) w = .ok (.tuple #[.int .i64 κ, .bool true]) w := by kernel_rfl
/-- The world in which the door calls its builder. -/
def doorW (w : World) (zero : Array Value) (T : TypeId) : World := (w.alloc (.cells zero T)).alloc (.cells #[.int .i64 1] 2)
end Go.Proofs.Ytlhiokcdjnmfmaa

namespace Go.Proofs.Ytlhiokcdjnmfmaa
open Go.RowKit Go.Maps
set_option maxRecDepth 100000 in
theorem catchS_idle (p : Addr) (w : World) :
    CallsD Try.prog 119 #[.pointer (some p)] .returning w fun e u' w' => e = .returned (.tuple #[]) ∧ u' = .returning ∧ w' = w := by
  refine callsD_of_wpS Try.func119 rfl fun c₀ cs hu => ?_
  apply wpS_seq
  apply wpS_region
  simp [wpOpsS, go_sem, recoverD, hu, Try.ntmps119, Exit.thenS, assert_nil]
  apply wpS_seq
  apply wpS_region
  simp [wpOpsS, go_sem, Exit.thenS]
  refine wpS_cond (t := false) (by simp [Act.eval, Array.replicate]) ?_
  simp only [Bool.false_eq_true, if_false]
  refine wpS_of_wp (wp_skip ?_)
  cases c₀
  simp_all [bodyPostS, results, Try.results119]
set_option maxRecDepth 100000 in
theorem catchS_code (p : Addr) (x κ : Int) (older : List PanicEntry) (w : World) (hc : w.cell? p = some (.int .i64 x)) (hz : w.frozen? p = false) :
    CallsD Try.prog 119 #[.pointer (some p)] (.panicking (codeP κ :: older)) w fun e u' w' =>
      e = .returned (.tuple #[]) ∧ u' = .panicking ({ v := .iface 115 (.int .i64 κ), recovered := true } :: older) ∧ w' = w.setCell p (.int .i64 κ) := by
  refine callsD_of_wpS Try.func119 rfl fun c₀ cs hu => ?_
  apply wpS_seq
  apply wpS_region
  simp [wpOpsS, go_sem, recoverD, hu, codeP, Try.ntmps119, Exit.thenS, assert_code]
  apply wpS_seq
  apply wpS_region
  simp [wpOpsS, go_sem, Exit.thenS]
  refine wpS_cond (t := true) (by simp [Act.eval, Array.replicate]) ?_
  simp only [if_true]
  apply wpS_region
  simp [wpOpsS, go_sem, hc, hz, bodyPostS, results, Try.results119]
set_option maxRecDepth 100000 in
set_option maxHeartbeats 2000000 in
theorem doorS_no (caps : Array Value) (κ : Int) (w : World) (hc : Calls Try.prog 73 caps (doorW w #[.int .i64 0, .slice none 0 0] 31) (fun e w' => e = .panicked [codeP κ] ∧ Below (w.heap.size + 2) (doorW w #[.int .i64 0, .slice none 0 0] 31) w')) :
    Calls Try.prog 72 #[.func (.func 73) #[] caps] w (fun e w' => e = .returned (.tuple #[.agg #[.int .i64 0, .slice none 0 0], .int .i64 κ]) ∧ Below w.heap.size w w') := by
  have hmf : ∀ (fn : Fn) (first cap : Array Value) (w : World), (Instr.makeFunc fn first cap).run Try.prog w = .ok (.func fn first cap) w := fun _ _ _ _ => rfl
  go_enter_defers Try.func72, Try.ntmps72
  go_wp2_with fail
  refine hc.mono ?_
  rintro e w' ⟨rfl, hb⟩
  have hz := hb.size
  have c0 : w'.cell? ⟨w.heap.size, 0, none⟩ = some (.int .i64 0) := (hb.cell (p := ⟨w.heap.size, 0, none⟩) (by simp)).trans (by simp [doorW])
  have c1 : w'.cell? ⟨w.heap.size, 1, none⟩ = some (.slice none 0 0) := (hb.cell (p := ⟨w.heap.size, 1, none⟩) (by simp)).trans (by simp [doorW])
  have c2 : w'.cell? ⟨w.heap.size + 1, 0, none⟩ = some (.int .i64 1) := (hb.cell (p := ⟨w.heap.size + 1, 0, none⟩) (by simp)).trans (by simp [doorW])
  have f2 : w'.frozen? ⟨w.heap.size + 1, 0, none⟩ = false := (hb.frozen (p := ⟨w.heap.size + 1, 0, none⟩) (by simp)).trans (by simp [doorW])
  have d0 : (w'.setCell ⟨w.heap.size + 1, 0, none⟩ (.int .i64 κ)).cell? ⟨w.heap.size, 0, none⟩ = some (.int .i64 0) := by rw [World.cell?_setCell_other _ _ _ _ (by simp)]; exact c0
  have d1 : (w'.setCell ⟨w.heap.size + 1, 0, none⟩ (.int .i64 κ)).cell? ⟨w.heap.size, 1, none⟩ = some (.slice none 0 0) := by rw [World.cell?_setCell_other _ _ _ _ (by simp)]; exact c1
  have d2 : (w'.setCell ⟨w.heap.size + 1, 0, none⟩ (.int .i64 κ)).cell? ⟨w.heap.size + 1, 0, none⟩ = some (.int .i64 κ) := World.cell?_setCell_same' _ _ _ (by rw [c2]; rfl)
  have hB : Below w.heap.size w (w'.setCell ⟨w.heap.size + 1, 0, none⟩ (.int .i64 κ)) := ((((Below.refl _ _).alloc (Nat.le_refl _) _).alloc (by simp) _).trans (hb.mono (by omega))).setCell (p := ⟨w.heap.size + 1, 0, none⟩) (by simp) _
  go_wp2_with fail
  refine leaves_cons (f := 119) (args := #[.pointer (some ⟨w.heap.size + 1, 0, none⟩)]) (by simp) (by simp [go_sem]) ?_
  refine (catchS_code ⟨w.heap.size + 1, 0, none⟩ 1 κ [] _ c2 f2).mono ?_
  rintro e u' w'' ⟨rfl, rfl, rfl⟩
  simp [Leaves, settle, results, Try.results72, go_sem, d0, d1, d2, hB]
set_option maxRecDepth 100000 in
set_option maxHeartbeats 2000000 in
theorem doorS_ok (caps : Array Value) (p : Int) (X : Value → World → Prop) (w : World) (hc : Calls Try.prog 73 caps (doorW w #[.int .i64 0, .slice none 0 0] 31) (fun e w' => ∃ a n c, e = .returned (.agg #[.int .i64 p, .slice a n c]) ∧ Below (w.heap.size + 2) (doorW w #[.int .i64 0, .slice none 0 0] 31) w' ∧ X (.slice a n c) w')) :
    Calls Try.prog 72 #[.func (.func 73) #[] caps] w (fun e w' => ∃ a n c, e = .returned (.tuple #[.agg #[.int .i64 p, .slice a n c], .int .i64 0]) ∧ Below w.heap.size w w' ∧ ∃ w2, X (.slice a n c) w2 ∧ w.heap.size + 2 ≤ w2.heap.size ∧ w' = ((w2.setCell ⟨w.heap.size, 0, none⟩ (.int .i64 p)).setCell ⟨w.heap.size, 1, none⟩ (.slice a n c)).setCell ⟨w.heap.size + 1, 0, none⟩ (.int .i64 0)) := by
  have hmf : ∀ (fn : Fn) (first cap : Array Value) (w : World), (Instr.makeFunc fn first cap).run Try.prog w = .ok (.func fn first cap) w := fun _ _ _ _ => rfl
  go_enter_defers Try.func72, Try.ntmps72
  go_wp2_with fail
  refine hc.mono ?_
  rintro e w' ⟨a, n, c, rfl, hb, hx⟩
  have hz := hb.size
  simp [doorW] at hz
  have c0 : w'.cell? ⟨w.heap.size, 0, none⟩ = some (.int .i64 0) := (hb.cell (p := ⟨w.heap.size, 0, none⟩) (by simp)).trans (by simp [doorW])
  have c1 : w'.cell? ⟨w.heap.size, 1, none⟩ = some (.slice none 0 0) := (hb.cell (p := ⟨w.heap.size, 1, none⟩) (by simp)).trans (by simp [doorW])
  have c2 : w'.cell? ⟨w.heap.size + 1, 0, none⟩ = some (.int .i64 1) := (hb.cell (p := ⟨w.heap.size + 1, 0, none⟩) (by simp)).trans (by simp [doorW])
  have f0 : w'.frozen? ⟨w.heap.size, 0, none⟩ = false := (hb.frozen (p := ⟨w.heap.size, 0, none⟩) (by simp)).trans (by simp [doorW])
  have f1 : w'.frozen? ⟨w.heap.size, 1, none⟩ = false := (hb.frozen (p := ⟨w.heap.size, 1, none⟩) (by simp)).trans (by simp [doorW])
  have f2 : w'.frozen? ⟨w.heap.size + 1, 0, none⟩ = false := (hb.frozen (p := ⟨w.heap.size + 1, 0, none⟩) (by simp)).trans (by simp [doorW])
  have hB : Below w.heap.size w (((w'.setCell ⟨w.heap.size, 0, none⟩ (.int .i64 p)).setCell ⟨w.heap.size, 1, none⟩ (.slice a n c)).setCell ⟨w.heap.size + 1, 0, none⟩ (.int .i64 0)) := ((((((Below.refl _ _).alloc (Nat.le_refl _) _).alloc (by simp) _).trans (hb.mono (by omega))).setCell (p := ⟨w.heap.size, 0, none⟩) (by simp) _).setCell (p := ⟨w.heap.size, 1, none⟩) (by simp) _).setCell (p := ⟨w.heap.size + 1, 0, none⟩) (by simp) _
  go_wp2_with fail
  refine leaves_cons (f := 119) (args := #[.pointer (some ⟨w.heap.size + 1, 0, none⟩)]) (by simp) (by simp [go_sem]) ?_
  refine (catchS_idle ⟨w.heap.size + 1, 0, none⟩ _).mono ?_
  rintro e u' w'' ⟨rfl, rfl, rfl⟩
  have k0 : (((w'.setCell ⟨w.heap.size, 0, none⟩ (.int .i64 p)).setCell ⟨w.heap.size, 1, none⟩ (.slice a n c)).setCell ⟨w.heap.size + 1, 0, none⟩ (.int .i64 0)).cell? ⟨w.heap.size, 0, none⟩ = some (.int .i64 p) := by
    rw [World.cell?_setCell_other _ _ _ _ (by simp), World.cell?_setCell_other _ _ _ _ (by simp)]
    exact World.cell?_setCell_same' _ _ _ (by rw [c0]; rfl)
  have k1 : (((w'.setCell ⟨w.heap.size, 0, none⟩ (.int .i64 p)).setCell ⟨w.heap.size, 1, none⟩ (.slice a n c)).setCell ⟨w.heap.size + 1, 0, none⟩ (.int .i64 0)).cell? ⟨w.heap.size, 1, none⟩ = some (.slice a n c) := by
    rw [World.cell?_setCell_other _ _ _ _ (by simp)]
    exact World.cell?_setCell_same' _ _ _ (by rw [World.cell?_setCell_other _ _ _ _ (by simp), c1]; rfl)
  have k2 : (((w'.setCell ⟨w.heap.size, 0, none⟩ (.int .i64 p)).setCell ⟨w.heap.size, 1, none⟩ (.slice a n c)).setCell ⟨w.heap.size + 1, 0, none⟩ (.int .i64 0)).cell? ⟨w.heap.size + 1, 0, none⟩ = some (.int .i64 0) := World.cell?_setCell_same' _ _ _ (by rw [World.cell?_setCell_other _ _ _ _ (by simp), World.cell?_setCell_other _ _ _ _ (by simp), c2]; rfl)
  simp [Leaves, settle, results, Try.results72, go_sem, k0, k1, k2]
  exact ⟨_, _, _, ⟨rfl, rfl, rfl⟩, hB, _, hx, by omega, rfl⟩
end Go.Proofs.Ytlhiokcdjnmfmaa

namespace Go.Proofs.Ytlhiokcdjnmfmaa
open Go.RowKit Go.Maps
set_option maxRecDepth 100000 in
set_option maxHeartbeats 2000000 in
theorem ThrB1_any (B : Nat) (s : Value) (n : Nat) (F : Nat → List Int) (w : World) (hB : w.cell? ⟨B, 0, none⟩ = some s) (h : SSB w s n F) (hwf : ∀ k, k < n → ∀ z ∈ F k, WF z) :
    Calls Try.prog 73 #[.pointer (some ⟨B, 0, none⟩)] w (fun e w' => (if sqB n F = true then (if thrG n F = true then ∃ a m c, e = .returned (.agg #[.int .i64 (thrV n F), .slice a m c]) ∧ ResR w' w.heap.size w'.heap.size (.slice a m c) (sortB (thrL n F)) else e = .panicked [codeP 5]) else e = .panicked [codeP 2]) ∧ Below w.heap.size w w') := by
  have hb0 : Below w.heap.size w (w.alloc (.cells #[.int .i64 0, .slice none 0 0] 31)) := (Below.refl _ _).alloc (Nat.le_refl _) _
  have hbc : B < w.heap.size := World.block_lt_of_cell? w ⟨B, 0, none⟩ hB
  have hB0 := (hb0.cell (p := ⟨B, 0, none⟩) hbc).trans hB
  have HC := Lib.hid (checkedSquare_any s n F _ (h.below hb0 (Nat.le_refl _)) hwf)
  have HSS := Lib.hid h
  obtain ⟨a, c, rfl⟩ := h.slice
  clear h hwf
  cases hg : sqB n F with
  | false =>
    rw [hg] at HC
    clear hg
    go_enter Try.func73, Try.ntmps73
    go_wp2_with fail
    refine HC.out.mono ?_
    rintro e w1 ⟨he, hb⟩
    simp only [Bool.false_eq_true, if_false] at he
    subst he
    have hb1 := below_new hb
    clear hb
    go_wp2_with fail
    exact ⟨rfl, rfl, hb1⟩
  | true =>
    rw [hg] at HC
    have HT := Lib.hid fun W (hb : Below w.heap.size w W) => threefoldOf_any _ n F W (HSS.out.below hb (Nat.le_refl _)) hg
    clear hg
    unfold RT at HT
    cases hq : thrG n F with
    | false =>
      rw [hq] at HT
      clear hq
      go_enter Try.func73, Try.ntmps73
      go_wp2_with fail
      refine HC.out.mono ?_
      rintro e w1 ⟨he, hb⟩
      simp only [if_true] at he
      subst he
      have hb1 := below_new hb
      clear hb
      go_wp2_with fail
      refine (HT.out _ hb1).mono ?_
      rintro e w2 ⟨he, hb2⟩
      simp only [Bool.false_eq_true, if_false] at he
      subst he
      have hb3 := hb1.trans (hb2.mono hb1.size)
      go_wp2_with fail
      exact ⟨rfl, rfl, hb3⟩
    | true =>
      rw [hq] at HT
      clear hq
      obtain ⟨V, hV⟩ : ∃ V, V = thrV n F := ⟨_, rfl⟩
      obtain ⟨L, hL⟩ : ∃ L, L = sortB (thrL n F) := ⟨_, rfl⟩
      rw [← hV, ← hL] at HT ⊢
      clear hV hL
      go_enter Try.func73, Try.ntmps73
      go_wp2_with fail
      refine HC.out.mono ?_
      rintro e w1 ⟨he, hb⟩
      simp only [if_true] at he
      subst he
      have hb1 := below_new hb
      have hz1 := hb.size
      simp at hz1
      have d0 : w1.cell? ⟨w.heap.size, 0, none⟩ = some (.int .i64 0) := (hb.cell (p := ⟨w.heap.size, 0, none⟩) (by simp)).trans (by simp [go_sem])
      have d1 : w1.cell? ⟨w.heap.size, 1, none⟩ = some (.slice none 0 0) := (hb.cell (p := ⟨w.heap.size, 1, none⟩) (by simp)).trans (by simp [go_sem])
      have f0 : w1.frozen? ⟨w.heap.size, 0, none⟩ = false := (hb.frozen (p := ⟨w.heap.size, 0, none⟩) (by simp)).trans (by simp [go_sem])
      have f1 : w1.frozen? ⟨w.heap.size, 1, none⟩ = false := (hb.frozen (p := ⟨w.heap.size, 1, none⟩) (by simp)).trans (by simp [go_sem])
      clear hb
      go_wp2_with fail
      refine (HT.out _ hb1).mono ?_
      rintro e w2 ⟨he, hb2⟩
      simp only [if_true] at he
      obtain ⟨a2, m2, c2, rfl, hres⟩ := he
      have hz2 := hb2.size
      have y0 := (hb2.cell (p := ⟨w.heap.size, 0, none⟩) (by simp; omega)).trans d0
      have y1 := (hb2.cell (p := ⟨w.heap.size, 1, none⟩) (by simp; omega)).trans d1
      have y2 := (hb2.frozen (p := ⟨w.heap.size, 0, none⟩) (by simp; omega)).trans f0
      have y3 := (hb2.frozen (p := ⟨w.heap.size, 1, none⟩) (by simp; omega)).trans f1
      have hb3 := hb1.trans (hb2.mono hb1.size)
      clear d0 d1 f0 f1 hb1 hb2
      go_wp2
      have hfin := (hres.kept (gb_set2 w2 w.heap.size (.int .i64 V) (.slice a2 m2 c2)) (fun r e => by cases e; exact .inl (by omega))).wide (lo' := w.heap.size) (by omega) (gb_set2 w2 w.heap.size (.int .i64 V) (.slice a2 m2 c2)).size
      exact bodyPost_ret (v := .agg #[.int .i64 V, .slice a2 m2 c2]) (by simp [results, Try.results73, go_sem, *]) rfl ⟨⟨_, _, _, rfl, hfin⟩, below_set2 hb3 (Nat.le_refl _) _ _⟩
end Go.Proofs.Ytlhiokcdjnmfmaa

namespace Go.Proofs.Ytlhiokcdjnmfmaa
open Go.RowKit Go.Maps
theorem thrF_good {n : Nat} {F : Nat → List Int} (h : sqB n F = true) (hg : thrG n F = true) : thrF n F = (thrV n F, sortB (thrL n F), 0) := by
  unfold thrF
  rw [if_pos h, if_pos (by simpa [thrG] using hg)]
  rfl
theorem thrF_state {n : Nat} {F : Nat → List Int} (h : sqB n F = true) (hg : thrG n F = false) : thrF n F = (0, [], 5) := by
  unfold thrF
  rw [if_pos h, if_neg (fun e => by rw [show thrG n F = true by simpa [thrG] using e] at hg; cases hg)]
theorem thrF_range {n : Nat} {F : Nat → List Int} (h : sqB n F = false) : thrF n F = (0, [], 2) := by
  unfold thrF
  rw [if_neg (by rw [h]; decide)]
set_option maxRecDepth 100000 in
set_option maxHeartbeats 2000000 in
/-- The call through the door ended with a code. -/
theorem ThrNo_any (s : Value) (κ : Int) (w : World) (hs : ∃ a n c, s = .slice a n c) (hB : Calls Try.prog 73 #[.pointer (some ⟨w.heap.size, 0, none⟩)] (doorW ((w.alloc (.cells #[s] 38)).alloc (.cells #[.int .i64 0, .slice none 0 0] 31)) #[.int .i64 0, .slice none 0 0] 31) (fun e w' => e = .panicked [codeP κ] ∧ Below (w.heap.size + 4) (doorW ((w.alloc (.cells #[s] 38)).alloc (.cells #[.int .i64 0, .slice none 0 0] 31)) #[.int .i64 0, .slice none 0 0] 31) w')) :
    Calls Try.prog 27 #[s] w (RSys (0, [], κ) w) := by
  have hmf : ∀ (fn : Fn) (first cap : Array Value) (w : World), (Instr.makeFunc fn first cap).run Try.prog w = .ok (.func fn first cap) w := fun _ _ _ _ => rfl
  obtain ⟨a, n, c, rfl⟩ := hs
  have HD := Lib.hid (doorS_no #[.pointer (some ⟨w.heap.size, 0, none⟩)] κ _ (hB.mono fun e w' ⟨he, hb⟩ => ⟨he, by simpa using hb⟩))
  clear hB
  go_enter Try.func27, Try.ntmps27
  go_wp2_with fail
  refine HD.out.mono ?_
  rintro e w1 ⟨rfl, hb1⟩
  obtain ⟨d0, d1, f0, f1, hbw, hlt⟩ : w1.cell? ⟨w.heap.size + 1, 0, none⟩ = some (.int .i64 0) ∧ w1.cell? ⟨w.heap.size + 1, 1, none⟩ = some (.slice none 0 0) ∧ w1.frozen? ⟨w.heap.size + 1, 0, none⟩ = false ∧ w1.frozen? ⟨w.heap.size + 1, 1, none⟩ = false ∧ Below w.heap.size w w1 ∧ w.heap.size + 1 < w1.heap.size := by
    have hz := hb1.size
    simp at hz
    refine ⟨(hb1.cell (p := ⟨w.heap.size + 1, 0, none⟩) (by simp)).trans (by simp [go_sem]), (hb1.cell (p := ⟨w.heap.size + 1, 1, none⟩) (by simp)).trans (by simp [go_sem]), (hb1.frozen (p := ⟨w.heap.size + 1, 0, none⟩) (by simp)).trans (by simp [go_sem]), (hb1.frozen (p := ⟨w.heap.size + 1, 1, none⟩) (by simp)).trans (by simp [go_sem]), ?_, by omega⟩
    exact (((Below.refl _ _).alloc (Nat.le_refl _) _).alloc (by simp) _).trans (hb1.mono (by simp; omega))
  clear hb1
  go_wp2
  exact bodyPost_ret (v := .tuple #[.agg #[.int .i64 0, .slice none 0 0], .int .i64 κ]) (by simp [results, Try.results27, go_sem, *]) rfl ⟨_, rfl, .inl ⟨rfl, _, _, rfl⟩, below_set2 hbw (by omega) _ _⟩
set_option maxRecDepth 100000 in
set_option maxHeartbeats 2000000 in
theorem ThrOk_any (s : Value) (V : Int) (L : List Blk) (w : World) (hs : ∃ a n c, s = .slice a n c) (hB : Calls Try.prog 73 #[.pointer (some ⟨w.heap.size, 0, none⟩)] (doorW ((w.alloc (.cells #[s] 38)).alloc (.cells #[.int .i64 0, .slice none 0 0] 31)) #[.int .i64 0, .slice none 0 0] 31) (fun e w' => ∃ a m c, e = .returned (.agg #[.int .i64 V, .slice a m c]) ∧ Below (w.heap.size + 4) (doorW ((w.alloc (.cells #[s] 38)).alloc (.cells #[.int .i64 0, .slice none 0 0] 31)) #[.int .i64 0, .slice none 0 0] 31) w' ∧ ResR w' (w.heap.size + 4) w'.heap.size (.slice a m c) L)) :
    Calls Try.prog 27 #[s] w (RSys (V, L, 0) w) := by
  have hmf : ∀ (fn : Fn) (first cap : Array Value) (w : World), (Instr.makeFunc fn first cap).run Try.prog w = .ok (.func fn first cap) w := fun _ _ _ _ => rfl
  obtain ⟨a, n, c, rfl⟩ := hs
  have HD := Lib.hid (doorS_ok #[.pointer (some ⟨w.heap.size, 0, none⟩)] V (fun u W => ResR W (w.heap.size + 4) W.heap.size u L) _ (hB.mono fun e w' ⟨a, m, c, he, hb, hr⟩ => ⟨a, m, c, he, by simpa using hb, hr⟩))
  clear hB
  go_enter Try.func27, Try.ntmps27
  go_wp2_with fail
  refine HD.out.mono ?_
  rintro e w1 ⟨a2, m2, c2, rfl, hb1, w2, hr, hz2, hw1⟩
  have hbb : ((w.alloc (.cells #[.slice a n c] 38)).alloc (.cells #[.int .i64 0, .slice none 0 0] 31)).heap.size = w.heap.size + 2 := by simp
  rw [hbb] at hz2 hw1
  have hr1 : ResR w1 (w.heap.size + 4) w1.heap.size (.slice a2 m2 c2) L := by
    have k1 := hr.kept (gb_set2 w2 (w.heap.size + 2) (.int .i64 V) (.slice a2 m2 c2)) (fun r e => by cases e; exact .inl (by omega))
    have k2 := k1.kept (only_setCell (p := ⟨w.heap.size + 2 + 1, 0, none⟩) (only_refl _ (some (w.heap.size + 2 + 1))) rfl (.int .i64 0)) (fun r e => by cases e; exact .inl (by omega))
    rw [hw1]
    exact k2.wide (Nat.le_refl _) (by simp [World.setCell])
  clear hbb
  obtain ⟨d0, d1, f0, f1, hbw, hlt⟩ : w1.cell? ⟨w.heap.size + 1, 0, none⟩ = some (.int .i64 0) ∧ w1.cell? ⟨w.heap.size + 1, 1, none⟩ = some (.slice none 0 0) ∧ w1.frozen? ⟨w.heap.size + 1, 0, none⟩ = false ∧ w1.frozen? ⟨w.heap.size + 1, 1, none⟩ = false ∧ Below w.heap.size w w1 ∧ w.heap.size + 1 < w1.heap.size := by
    have hz := hb1.size
    simp at hz
    refine ⟨(hb1.cell (p := ⟨w.heap.size + 1, 0, none⟩) (by simp)).trans (by simp [go_sem]), (hb1.cell (p := ⟨w.heap.size + 1, 1, none⟩) (by simp)).trans (by simp [go_sem]), (hb1.frozen (p := ⟨w.heap.size + 1, 0, none⟩) (by simp)).trans (by simp [go_sem]), (hb1.frozen (p := ⟨w.heap.size + 1, 1, none⟩) (by simp)).trans (by simp [go_sem]), ?_, by omega⟩
    exact (((Below.refl _ _).alloc (Nat.le_refl _) _).alloc (by simp) _).trans (hb1.mono (by simp; omega))
  clear hb1 hw1 hr
  go_wp2
  have hfin := (hr1.kept (gb_set2 w1 (w.heap.size + 1) (.int .i64 V) (.slice a2 m2 c2)) (fun r e => by cases e; exact .inl (by omega))).wide (lo' := w.heap.size) (by omega) (gb_set2 w1 (w.heap.size + 1) (.int .i64 V) (.slice a2 m2 c2)).size
  exact bodyPost_ret (v := .tuple #[.agg #[.int .i64 V, .slice a2 m2 c2], .int .i64 0]) (by simp [results, Try.results27, go_sem, *]) rfl ⟨_, rfl, hfin, below_set2 hbw (by omega) _ _⟩
theorem ThreefoldSystem_any (s : Value) (n : Nat) (F : Nat → List Int) (w : World) (h : SSB w s n F) (hwf : ∀ k, k < n → ∀ z ∈ F k, WF z) :
    Calls Try.prog 27 #[s] w (RSys (thrF n F) w) := by
  have hb0 : Below w.heap.size w (doorW ((w.alloc (.cells #[s] 38)).alloc (.cells #[.int .i64 0, .slice none 0 0] 31)) #[.int .i64 0, .slice none 0 0] 31) :=
    ((((Below.refl _ _).alloc (Nat.le_refl _) _).alloc (by simp) _).alloc (by simp; omega) _).alloc (by simp; omega) _
  have hB := ThrB1_any w.heap.size s n F _ (by simp [go_sem, doorW]) (h.below hb0 (Nat.le_refl _)) hwf
  have hsz : (doorW ((w.alloc (.cells #[s] 38)).alloc (.cells #[.int .i64 0, .slice none 0 0] 31)) #[.int .i64 0, .slice none 0 0] 31).heap.size = w.heap.size + 4 := by simp [doorW]
  rw [hsz] at hB
  have hs : ∃ a n c, s = .slice a n c := by obtain ⟨a, c, rfl⟩ := h.slice; exact ⟨_, _, _, rfl⟩
  cases hg : sqB n F with
  | false =>
    rw [thrF_range hg]
    exact ThrNo_any s 2 w hs (hB.mono fun e w' ⟨he, hb⟩ => ⟨by rw [hg] at he; simpa using he, hb⟩)
  | true =>
    cases hq : thrG n F with
    | false =>
      rw [thrF_state hg hq]
      exact ThrNo_any s 5 w hs (hB.mono fun e w' ⟨he, hb⟩ => ⟨by rw [hg, hq] at he; simpa using he, hb⟩)
    | true =>
      rw [thrF_good hg hq]
      exact ThrOk_any s _ _ w hs (hB.mono fun e w' ⟨he, hb⟩ => by
        rw [hg, hq] at he
        simp only [if_true] at he
        obtain ⟨a, m, c, rfl, hr⟩ := he
        exact ⟨a, m, c, rfl, hb, hr⟩)
end Go.Proofs.Ytlhiokcdjnmfmaa

/- impl.CommonBlocks answers as the plain function commonF. -/
import Derived.Test.YtomcjifklggcnaaCommon
namespace Go.Proofs.Ytomcjifklggcnaa
open Go.RowKit Go.Maps
set_option maxRecDepth 100000 in
theorem CommonBlocks_main (v : Int) (s : Value) (bs : List Blk) (t : Value) (cs : List Blk) (w : World) (h : SB w s bs) (k : SB w t cs) (h1 : isSysImpl v bs = true) (h2 : isSysImpl v cs = true) :
    Calls Try.prog 57 #[.agg #[.int .i64 v, s], .agg #[.int .i64 v, t]] w (RLC (commonL bs cs, 0) w) := by
  have hs := h.slice
  have ht := k.slice
  have hc1 := fun W (hb : Below w.heap.size w W) => IsSystem_any v s bs W (h.below hb (Nat.le_refl _))
  have hc2 := fun W (hb : Below w.heap.size w W) => IsSystem_any v t cs W (k.below hb (Nat.le_refl _))
  have hB : Below w.heap.size w ((w.alloc (.cells #[.int .i64 v, s] 29)).alloc (.cells #[.int .i64 v, t] 29)) := ((Below.refl _ _).alloc (Nat.le_refl _) _).alloc (by simp) _
  have HSB := Lib.hid h
  have KSB := Lib.hid k
  have hl1 := h.2.1
  have hl2 := k.2.1
  clear h k
  have HC2 := Lib.hid hc2
  have HC1 := Lib.hid hc1
  rw [h1] at HC1
  rw [h2] at HC2
  clear hc1 hc2 h1 h2
  have hnb : (v != v) = false := by simp
  have hmm := run_makeMap_hint (P := Try.prog) 103 60 4 .i64 (cs.length : Int) isMap
  obtain ⟨a, c, rfl⟩ := hs
  obtain ⟨a', c', rfl⟩ := ht
  go_enter Try.func57, Try.ntmps57
  go_wp2_with fail
  refine (HC1.out _ hB).mono ?_
  rintro e w1 ⟨rfl, hb1⟩
  have hB1 := hB.trans (hb1.mono (by simp; omega))
  have hz1 := hb1.size
  simp at hz1
  have d0 := (hb1.cell (p := ⟨w.heap.size, 0, none⟩) (by simp; omega)).trans (by simp [go_sem] : _ = some (Value.int .i64 v))
  have d1 := (hb1.cell (p := ⟨w.heap.size, 1, none⟩) (by simp; omega)).trans (by simp [go_sem] : _ = some (Value.slice a bs.length c))
  have c0 := (hb1.cell (p := ⟨w.heap.size + 1, 0, none⟩) (by simp)).trans (by simp [go_sem] : _ = some (Value.int .i64 v))
  have c1 := (hb1.cell (p := ⟨w.heap.size + 1, 1, none⟩) (by simp)).trans (by simp [go_sem] : _ = some (Value.slice a' cs.length c'))
  clear hb1
  go_wp2_with fail
  refine (HC2.out _ hB1).mono ?_
  rintro e w2 ⟨rfl, hb2⟩
  have e0 := (hb2.cell (p := ⟨w.heap.size, 0, none⟩) (by show w.heap.size < _; omega)).trans d0
  have e1 := (hb2.cell (p := ⟨w.heap.size, 1, none⟩) (by show w.heap.size < _; omega)).trans d1
  have f0 := (hb2.cell (p := ⟨w.heap.size + 1, 0, none⟩) (by show w.heap.size + 1 < _; omega)).trans c0
  have f1 := (hb2.cell (p := ⟨w.heap.size + 1, 1, none⟩) (by show w.heap.size + 1 < _; omega)).trans c1
  have hB2 := hB1.trans (hb2.mono hB1.size)
  have hz2 := hb2.size
  have hsb2 := HSB.out.below hB2 (Nat.le_refl _)
  have ksb2 := KSB.out.below hB2 (Nat.le_refl _)
  have HSB2 := Lib.hid hsb2
  have KSB2 := Lib.hid ksb2
  clear d0 d1 c0 c1 hb2 hsb2 ksb2
  have hz3 : w.heap.size + 1 < w2.heap.size := by omega
  have hz4 : w.heap.size < w2.heap.size := by omega
  go_wp2_with fail
  go_loopw [32] (fun i wr => ∃ k : Nat, k ≤ cs.length ∧ i = .int .i64 k ∧ BoolSet wr Try.prog 60 4 w2.heap.size k ((cs.take k).map bv) ∧ Below w2.heap.size w2 wr) (fun i _ => cs.length - (intOf i).toNat)
  case atStart => exact ⟨0, Nat.zero_le _, rfl, BoolSet.made _ _ _ _, (Below.refl _ _).alloc (Nat.le_refl _) _⟩
  case round =>
    obtain ⟨k, hk, rfl, hS, hBr⟩ := hrel
    have hSl := hS.lt
    by_cases hkl : k < cs.length
    · rcases KSB2.out.2.2 with ⟨_, _, _, hnil⟩ | ⟨b, off, cap, hval, hblt, hbl⟩
      · rw [hnil] at hkl; simp at hkl
      · simp at hval
        obtain ⟨rfl, rfl⟩ := hval
        obtain ⟨x, hx, ex, x1, x2, x3⟩ := blks_at (hbl.below hBr hblt) hkl
        have hw := KSB2.out.1 x hx
        obtain ⟨p, q, r⟩ := x
        obtain ⟨kl, hkey⟩ := bv_key hw.1 hw.2.1 hw.2.2
        have HK := Lib.hid hkey
        have e3 : (cs.take (k + 1)).map bv = (cs.take k).map bv ++ [bv ⟨p, q, r⟩] := by
          have e : cs[k] = ⟨p, q, r⟩ := by
            rw [List.getElem?_eq_getElem hkl] at ex
            simpa using ex
          rw [take_next hkl, e]; simp
        have E3 := Lib.hid e3
        dsimp only at x1 x2 x3
        clear hbl hx ex hw hkey e3
        go_wp2_with (at_mapUpdate; refine wpList_put_set _ rfl _ _ _ 103 rfl 60 4 blockKeyed isMap Try.underlying4 w2.heap.size k ((cs.take k).map bv) rfl (hS.alloc _) (by unfold maxLen; omega) (bv ⟨p, q, r⟩) kl rfl rfl HK.out ?_; intro w3 hS3 hg3)
        go_roundw
        case rel => exact ⟨k + 1, by omega, by go_num, by rw [E3.out]; exact hS3, (hBr.alloc hBr.size _).grown hg3 (by have := hBr.size; simp; omega) (fun j e => by cases e; exact Nat.le_refl _)⟩
        case measure => simp [intOf]; omega
    · have e : k = cs.length := by omega
      subst e
      rw [List.take_length] at hS
      have g1 := (hBr.cell (p := ⟨w.heap.size, 1, none⟩) (by show w.heap.size < _; omega)).trans e1
      go_wp2_with fail
      obtain ⟨wo, hwo⟩ : ∃ wo : World, wo = wr := ⟨_, rfl⟩
      rw [← hwo] at hS hBr hSl g1 ⊢
      clear hwo
      go_loopw [9, 42] (fun o i wr => ∃ k : Nat, k ≤ bs.length ∧ i = .int .i64 k ∧ BoolSet wr Try.prog 60 4 w2.heap.size cs.length (cs.map bv) ∧ Below w2.heap.size w2 wr ∧ OwnR wr (w2.heap.size + 1) o (commonL (bs.take k) cs) ∧ w2.heap.size + 1 ≤ wr.heap.size ∧ ∃ a n c, o = .slice a n c) (fun _ i _ => bs.length - (intOf i).toNat)
      case atStart => exact ⟨0, Nat.zero_le _, rfl, hS, hBr, OwnR.nil _ _, hSl, _, _, _, rfl⟩
      case round =>
        obtain ⟨k, hk, rfl, hS, hBr, hO, hSl, hform⟩ := hrel
        by_cases hkl : k < bs.length
        · rcases HSB2.out.2.2 with ⟨_, _, _, hnil⟩ | ⟨b, off, cap, hval, hblt, hbl⟩
          · rw [hnil] at hkl; simp at hkl
          · simp at hval
            obtain ⟨rfl, rfl⟩ := hval
            obtain ⟨x, hx, ex, x1, x2, x3⟩ := blks_at (hbl.below hBr hblt) hkl
            have hw := HSB2.out.1 x hx
            have hnx := filter_take_next (p := fun x => decide (x ∈ cs)) hkl ex
            have hmem : bv x ∈ cs.map bv ↔ x ∈ cs := ⟨fun h => by obtain ⟨y, hy, e⟩ := List.mem_map.1 h; rw [← bv_inj e]; exact hy, fun h => List.mem_map.2 ⟨x, h, rfl⟩⟩
            have hlc := commonL_length (bs.take k) cs
            have hlc2 : (bs.take k).length ≤ bs.length := by simp; omega
            obtain ⟨p, q, r⟩ := x
            obtain ⟨kl, hkey⟩ := bv_key hw.1 hw.2.1 hw.2.2
            have HK := Lib.hid hkey
            have HNX := Lib.hid hnx
            have HMEM := Lib.hid hmem
            dsimp only at x1 x2 x3
            clear hbl hx ex hw hkey hnx hmem
            obtain ⟨a3, n3, c3, rfl⟩ := hform
            have HO := Lib.hid hO
            clear hO
            go_wp2_with (first | (at_lookup; refine wpList_look_set _ rfl _ _ 103 rfl 60 4 blockKeyed isMap Try.underlying4 (zeroBool _) w2.heap.size cs.length (cs.map bv) rfl (hS.alloc _) (bv ⟨p, q, r⟩) kl rfl HK.out ?_; intro β hβ) | (at_builtin; refine wpList_append_blk rfl _ _ rfl (w2.heap.size + 1) _ (commonL (bs.take k) cs) rfl (((HO.out.below ((Below.refl _ _).alloc (Nat.le_refl _) _) (Nat.le_refl _)).below ((Below.refl _ _).alloc (Nat.le_refl _) _) (Nat.le_refl _))) _ _ ⟨p, q, r⟩ rfl (by simp [go_sem]) (by simp [go_sem]) (by simp [go_sem]) (by omega) (by simp; omega) ?_; intro g' cap' w4 hO4 hg4))
            · have hb : β = true := by assumption
              have hin : (⟨p, q, r⟩ : Blk) ∈ cs := HMEM.out.1 (hβ.out.1 hb)
              have hrow := HO.out.row
              have hgo : wr.grownBy w4 (Value.slice a3 n3 c3).ownBlock := ⟨hg4.os, hg4.tape, hg4.output, by have := hg4.size; simp at this; omega, fun i hi hne => by
                rw [hg4.block i (by simp; omega) hne, Below.heap_alloc _ _ _ (by simp; omega), Below.heap_alloc _ _ _ hi]⟩
              have hcl : commonL (bs.take (k + 1)) cs = commonL (bs.take k) cs ++ [⟨p, q, r⟩] := by
                unfold commonL
                rw [HNX.out, if_pos (by simpa using hin)]
              have HCL := Lib.hid hcl
              clear hcl hg4
              go_roundw
              case rel => exact ⟨k + 1, by omega, by go_num, hS.kept hgo (fun e => by have := hrow _ e.symm; omega), hBr.grown hgo hBr.size (fun j e => by have := hrow j e; omega), by rw [HCL.out]; exact hO4, by have := hgo.size; omega, _, _, _, rfl⟩
              case measure => simp [intOf]; omega
            · have hb : β = false := by assumption
              have hin : ¬ (⟨p, q, r⟩ : Blk) ∈ cs := fun h => by have := hβ.out.2 (HMEM.out.2 h); rw [hb] at this; cases this
              have hcl : commonL (bs.take (k + 1)) cs = commonL (bs.take k) cs := by
                unfold commonL
                rw [HNX.out, if_neg (by simpa using hin), List.append_nil]
              have HCL := Lib.hid hcl
              clear hcl
              go_roundw
              case rel => exact ⟨k + 1, by omega, by go_num, hS.alloc _, hBr.alloc hBr.size _, by rw [HCL.out]; exact HO.out.below ((Below.refl _ _).alloc (Nat.le_refl _) _) (Nat.le_refl _), by simp; omega, _, _, _, rfl⟩
              case measure => simp [intOf]; omega
        · obtain ⟨a3, n3, c3, rfl⟩ := hform
          go_wp2
          go_ret2
          have e : k = bs.length := by omega
          subst e
          rw [List.take_length] at hO
          exact ⟨_, rfl, hO.res.wide (by omega) (Nat.le_refl _), hB2.trans (hBr.mono hB2.size)⟩

theorem CommonBlocks_any (v : Int) (s : Value) (bs : List Blk) (u : Int) (t : Value) (cs : List Blk) (w : World) (h : SB w s bs) (k : SB w t cs) :
    Calls Try.prog 57 #[.agg #[.int .i64 v, s], .agg #[.int .i64 u, t]] w (RLC (commonF v bs u cs) w) := by
  unfold commonF
  cases hb : isSysImpl v bs && isSysImpl u cs with
  | false => exact CommonBlocks_no v s bs u t cs w h k hb
  | true =>
    simp only [Bool.and_eq_true] at hb
    by_cases e : v = u
    · subst e
      rw [if_pos rfl, if_pos rfl]
      exact CommonBlocks_main v s bs t cs w h k hb.1 hb.2
    · rw [if_pos rfl, if_neg e]
      exact CommonBlocks_ne v s bs u t cs w h k hb.1 hb.2 e
end Go.Proofs.Ytomcjifklggcnaa

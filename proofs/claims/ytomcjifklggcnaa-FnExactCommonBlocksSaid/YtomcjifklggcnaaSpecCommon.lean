/- The model's CommonBlocks answers as the plain function commonF. -/
import Derived.Test.YtomcjifklggcnaaCommonM
import Derived.Test.YtomcjifklggcnaaEqBlk
namespace Go.Proofs.Ytomcjifklggcnaa
open Go.RowKit Go.Maps
theorem OwnR.lit (w : World) : OwnR (w.alloc (.cells #[] 60)) w.heap.size (.slice (some ⟨w.heap.size, 0, none⟩) 0 0) [] :=
  ⟨rfl,   .inr ⟨w.heap.size, 0, #[], rfl, Nat.le_refl _, (MapKept.heap_alloc w (.cells #[] 60)).1, Nat.le_refl _, by unfold maxLen; omega, rfl, rfl⟩⟩
set_option maxRecDepth 100000 in
theorem l01Has_any (v : Int) (s : Value) (bs : List Blk) (x : Blk) (w : World) (h : SB w s bs) : Calls Try.prog 96 #[.agg #[.int .i64 v, s], bv x] w (RV (.bool (decide (x ∈ bs))) w) := by
  have hs := h.slice
  have H := Lib.hid h
  have hl := h.2.1
  clear h
  obtain ⟨a, c, rfl⟩ := hs
  obtain ⟨x1, x2, x3⟩ := x
  unfold bv
  dsimp only
  go_enter Try.func96, Try.ntmps96
  go_wp2
  have B0 : Below w.heap.size w ((w.alloc (.cells #[.int .i64 v, .slice a bs.length c] 29)).alloc (.cells #[.int .i64 x1, .int .i64 x2, .int .i64 x3] 60)) := ((Below.refl _ _).alloc (Nat.le_refl _) _).alloc (by simp) _
  have p1 := cell_past (ob := .cells #[.int .i64 x1, .int .i64 x2, .int .i64 x3] 60) (new_at (w := w) (cs := #[.int .i64 v, .slice a bs.length c]) (T := 29) 1 rfl) (by simp)
  obtain ⟨W, hW⟩ : ∃ W, W = (w.alloc (.cells #[.int .i64 v, .slice a bs.length c] 29)).alloc (.cells #[.int .i64 x1, .int .i64 x2, .int .i64 x3] 60) := ⟨_, rfl⟩
  have y0 : W.cell? ⟨w.heap.size + 1, 0, none⟩ = some (.int .i64 x1) := by rw [hW]; simp
  have y1 : W.cell? ⟨w.heap.size + 1, 1, none⟩ = some (.int .i64 x2) := by rw [hW]; simp
  have y2 : W.cell? ⟨w.heap.size + 1, 2, none⟩ = some (.int .i64 x3) := by rw [hW]; simp
  rw [← hW] at B0 p1 ⊢
  clear hW
  have hsb := H.out.below B0 (Nat.le_refl _)
  have HS := Lib.hid hsb
  clear hsb
  go_loopw [5] (fun i wr => ∃ k : Nat, k ≤ bs.length ∧ i = .int .i64 k ∧ (∃ n, wr = W.drewN n) ∧ Hid (¬ (⟨x1, x2, x3⟩ : Blk) ∈ bs.take k)) (fun i _ => bs.length - (intOf i).toNat)
  case atStart => exact ⟨0, Nat.zero_le _, rfl, ⟨0, rfl⟩, Lib.hid (by simp)⟩
  case round =>
    obtain ⟨k, hk, rfl, ⟨n, rfl⟩, HN⟩ := hrel
    by_cases hkl : k < bs.length
    · rcases HS.out.2.2 with ⟨_, _, _, hnil⟩ | ⟨b, off, cap, hval, hblt, hbl⟩
      · rw [hnil] at hkl; simp at hkl
      · simp at hval
        obtain ⟨rfl, rfl⟩ := hval
        obtain ⟨z, hz, ez, z1, z2, z3⟩ := blks_at hbl hkl
        have g0 : (0 : Int) ≤ (k : Int) := by omega
        have g1 : (k : Int) < (bs.length : Int) := by omega
        have hnx : bs.take (k + 1) = bs.take k ++ [z] := by
          have e : bs[k] = z := by
            rw [List.getElem?_eq_getElem hkl] at ez
            simpa using ez
          rw [take_next hkl, e]
        have HNX := Lib.hid hnx
        have HZ := Lib.hid hz
        have hq := run_eql_blk z ⟨x1, x2, x3⟩
        obtain ⟨q1, q2, q3⟩ := z
        unfold bv at hq
        dsimp only at hq z1 z2 z3
        clear hnx hz ez hbl
        by_cases he : (⟨q1, q2, q3⟩ : Blk) = ⟨x1, x2, x3⟩
        · have HEQ := Lib.hid he
          rw [decide_eq_true he] at hq
          clear he
          go_wp2
          go_quiet (fail)
          go_wp2
          go_ret
          exact RV_of (bool_eq (by rw [← HEQ.out]; simp [HZ.out])) (below_drewN (below_drewN B0 _) _)
        · have HEQ := Lib.hid he
          rw [decide_eq_false he] at hq
          clear he
          go_wp2
          go_quiet (fail)
          go_wp2
          go_roundw
          case rel => exact ⟨k + 1, by omega, by go_num, ⟨_, rfl⟩, Lib.hid (by rw [HNX.out]; simp only [List.mem_append, List.mem_singleton, not_or]; exact ⟨HN.out, fun e => HEQ.out e.symm⟩)⟩
          case measure => simp [intOf]; omega
    · go_wp2
      go_ret
      have e : k = bs.length := by omega
      subst e
      refine RV_of (bool_eq ?_) (below_drewN B0 _)
      have := HN.out
      rw [List.take_length] at this
      simp [this]
set_option maxRecDepth 100000 in
theorem specCommon_no (v : Int) (s : Value) (bs : List Blk) (u : Int) (t : Value) (cs : List Blk) (w : World) (h : SB w s bs) (k : SB w t cs) (hn : (isSysImpl v bs && isSysImpl u cs) = false) :
    Calls Try.prog 56 #[.agg #[.int .i64 v, s], .agg #[.int .i64 u, t]] w (RLC ([], 1) w) := by
  have hs := h.slice
  have ht := k.slice
  have hc1 := fun W (hb : Below w.heap.size w W) => l01Is_any v s bs W (h.below hb (Nat.le_refl _))
  have hc2 := fun W (hb : Below w.heap.size w W) => l01Is_any u t cs W (k.below hb (Nat.le_refl _))
  have hB : Below w.heap.size w ((w.alloc (.cells #[.int .i64 v, s] 29)).alloc (.cells #[.int .i64 u, t] 29)) := ((Below.refl _ _).alloc (Nat.le_refl _) _).alloc (by simp) _
  clear h k
  have HC2 := Lib.hid hc2
  have HC1 := Lib.hid hc1
  clear hc1 hc2
  obtain ⟨a, c, rfl⟩ := hs
  obtain ⟨a', c', rfl⟩ := ht
  cases h1 : isSysImpl v bs with
  | false =>
    rw [h1] at HC1
    clear h1 hn
    go_enter Try.func56, Try.ntmps56
    go_wp2_with (go_at_call 63; refine (HC1.out _ hB).mono ?_; rintro e w1 ⟨rfl, hb1⟩)
    go_ret2
    exact ⟨_, rfl, .inl ⟨rfl, _, _, rfl⟩, hB.trans (hb1.mono (by simp; omega))⟩
  | true =>
    rw [h1] at HC1 hn
    have h2 : isSysImpl u cs = false := by simpa using hn
    rw [h2] at HC2
    clear h1 h2 hn
    go_enter Try.func56, Try.ntmps56
    go_wp2_with fail
    refine (HC1.out _ hB).mono ?_
    rintro e w1 ⟨rfl, hb1⟩
    have hB1 := hB.trans (hb1.mono (by simp; omega))
    have c0 := (hb1.cell (p := ⟨w.heap.size + 1, 0, none⟩) (by simp)).trans (by simp [go_sem] : _ = some (Value.int .i64 u))
    have c1 := (hb1.cell (p := ⟨w.heap.size + 1, 1, none⟩) (by simp)).trans (by simp [go_sem] : _ = some (Value.slice a' cs.length c'))
    clear hb1
    go_wp2_with (go_at_call 63; refine (HC2.out _ hB1).mono ?_; rintro e w2 ⟨rfl, hb2⟩)
    go_ret2
    exact ⟨_, rfl, .inl ⟨rfl, _, _, rfl⟩, hB1.trans (hb2.mono hB1.size)⟩


set_option maxRecDepth 100000 in
theorem specCommon_ne (v : Int) (s : Value) (bs : List Blk) (u : Int) (t : Value) (cs : List Blk) (w : World) (h : SB w s bs) (k : SB w t cs) (h1 : isSysImpl v bs = true) (h2 : isSysImpl u cs = true) (hne : v ≠ u) :
    Calls Try.prog 56 #[.agg #[.int .i64 v, s], .agg #[.int .i64 u, t]] w (RLC ([], 2) w) := by
  have hs := h.slice
  have ht := k.slice
  have hc1 := fun W (hb : Below w.heap.size w W) => l01Is_any v s bs W (h.below hb (Nat.le_refl _))
  have hc2 := fun W (hb : Below w.heap.size w W) => l01Is_any u t cs W (k.below hb (Nat.le_refl _))
  have hB : Below w.heap.size w ((w.alloc (.cells #[.int .i64 v, s] 29)).alloc (.cells #[.int .i64 u, t] 29)) := ((Below.refl _ _).alloc (Nat.le_refl _) _).alloc (by simp) _
  clear h k
  have HC2 := Lib.hid hc2
  have HC1 := Lib.hid hc1
  rw [h1] at HC1
  rw [h2] at HC2
  clear hc1 hc2 h1 h2
  have hnb : (v != u) = true := by simp [hne]
  clear hne
  obtain ⟨a, c, rfl⟩ := hs
  obtain ⟨a', c', rfl⟩ := ht
  go_enter Try.func56, Try.ntmps56
  go_wp2_with fail
  refine (HC1.out _ hB).mono ?_
  rintro e w1 ⟨rfl, hb1⟩
  have hB1 := hB.trans (hb1.mono (by simp; omega))
  have hz1 := hb1.size
  simp at hz1
  have d0 := (hb1.cell (p := ⟨w.heap.size, 0, none⟩) (by simp; omega)).trans (by simp [go_sem] : _ = some (Value.int .i64 v))
  have c0 := (hb1.cell (p := ⟨w.heap.size + 1, 0, none⟩) (by simp)).trans (by simp [go_sem] : _ = some (Value.int .i64 u))
  have c1 := (hb1.cell (p := ⟨w.heap.size + 1, 1, none⟩) (by simp)).trans (by simp [go_sem] : _ = some (Value.slice a' cs.length c'))
  clear hb1
  go_wp2_with fail
  refine (HC2.out _ hB1).mono ?_
  rintro e w2 ⟨rfl, hb2⟩
  have e0 := (hb2.cell (p := ⟨w.heap.size, 0, none⟩) (by show w.heap.size < _; omega)).trans d0
  have f0 := (hb2.cell (p := ⟨w.heap.size + 1, 0, none⟩) (by show w.heap.size + 1 < _; omega)).trans c0
  clear d0 c0 c1
  go_wp2
  go_ret2
  exact ⟨_, rfl, .inl ⟨rfl, _, _, rfl⟩, hB1.trans (hb2.mono hB1.size)⟩


set_option maxRecDepth 100000 in
theorem specCommon_main (v : Int) (s : Value) (bs : List Blk) (t : Value) (cs : List Blk) (w : World) (h : SB w s bs) (k : SB w t cs) (h1 : isSysImpl v bs = true) (h2 : isSysImpl v cs = true) :
    Calls Try.prog 56 #[.agg #[.int .i64 v, s], .agg #[.int .i64 v, t]] w (RLC (commonL bs cs, 0) w) := by
  have hs := h.slice
  have ht := k.slice
  have hc1 := fun W (hb : Below w.heap.size w W) => l01Is_any v s bs W (h.below hb (Nat.le_refl _))
  have hc2 := fun W (hb : Below w.heap.size w W) => l01Is_any v t cs W (k.below hb (Nat.le_refl _))
  have hB : Below w.heap.size w ((w.alloc (.cells #[.int .i64 v, s] 29)).alloc (.cells #[.int .i64 v, t] 29)) := ((Below.refl _ _).alloc (Nat.le_refl _) _).alloc (by simp) _
  have HSB := Lib.hid h
  have KSB := Lib.hid k
  have hl1 := h.2.1
  have hl2 := k.2.1
  clear h k
  have HC2 := Lib.hid hc2
  have HC1 := Lib.hid hc1
  rw [h1] at HC1
  rw [h2] at HC2
  clear hc1 hc2 h1 h2
  have hnb : (v != v) = false := by simp
  obtain ⟨a, c, rfl⟩ := hs
  obtain ⟨a', c', rfl⟩ := ht
  go_enter Try.func56, Try.ntmps56
  go_wp2_with fail
  refine (HC1.out _ hB).mono ?_
  rintro e w1 ⟨rfl, hb1⟩
  have hB1 := hB.trans (hb1.mono (by simp; omega))
  have hz1 := hb1.size
  simp at hz1
  have d0 := (hb1.cell (p := ⟨w.heap.size, 0, none⟩) (by simp; omega)).trans (by simp [go_sem] : _ = some (Value.int .i64 v))
  have d1 := (hb1.cell (p := ⟨w.heap.size, 1, none⟩) (by simp; omega)).trans (by simp [go_sem] : _ = some (Value.slice a bs.length c))
  have c0 := (hb1.cell (p := ⟨w.heap.size + 1, 0, none⟩) (by simp)).trans (by simp [go_sem] : _ = some (Value.int .i64 v))
  have c1 := (hb1.cell (p := ⟨w.heap.size + 1, 1, none⟩) (by simp)).trans (by simp [go_sem] : _ = some (Value.slice a' cs.length c'))
  clear hb1
  go_wp2_with fail
  refine (HC2.out _ hB1).mono ?_
  rintro e w2 ⟨rfl, hb2⟩
  have e0 := (hb2.cell (p := ⟨w.heap.size, 0, none⟩) (by show w.heap.size < _; omega)).trans d0
  have e1 := (hb2.cell (p := ⟨w.heap.size, 1, none⟩) (by show w.heap.size < _; omega)).trans d1
  have f0 := (hb2.cell (p := ⟨w.heap.size + 1, 0, none⟩) (by show w.heap.size + 1 < _; omega)).trans c0
  have f1 := (hb2.cell (p := ⟨w.heap.size + 1, 1, none⟩) (by show w.heap.size + 1 < _; omega)).trans c1
  have hB2 := hB1.trans (hb2.mono hB1.size)
  have hz2 := hb2.size
  have hsb2 := HSB.out.below hB2 (Nat.le_refl _)
  have ksb2 := KSB.out.below hB2 (Nat.le_refl _)
  have HSB2 := Lib.hid hsb2
  have KSB2 := Lib.hid ksb2
  clear d0 d1 c0 c1 hb2 hsb2 ksb2
  have hz3 : w.heap.size + 1 < w2.heap.size := by omega
  have hz4 : w.heap.size < w2.heap.size := by omega
  go_wp2_with fail
  go_loopw [6, 7] (fun o i wr => ∃ k : Nat, k ≤ bs.length ∧ i = .int .i64 k ∧ Below w2.heap.size w2 wr ∧ OwnR wr w2.heap.size o (commonL (bs.take k) cs) ∧ ∃ a n c, o = .slice a n c) (fun _ i _ => bs.length - (intOf i).toNat)
  case atStart => exact ⟨0, Nat.zero_le _, rfl, (Below.refl _ _).alloc (Nat.le_refl _) _, OwnR.lit _, _, _, _, rfl⟩
  case round =>
    obtain ⟨k, hk, rfl, hBr, hO, hform⟩ := hrel
    have hzr := hBr.size
    have p1 := (hBr.cell (p := ⟨w.heap.size, 1, none⟩) (by show w.heap.size < _; omega)).trans e1
    by_cases hkl : k < bs.length
    · rcases HSB2.out.2.2 with ⟨_, _, _, hnil⟩ | ⟨b, off, cap, hval, hblt, hbl⟩
      · rw [hnil] at hkl; simp at hkl
      · simp at hval
        obtain ⟨rfl, rfl⟩ := hval
        obtain ⟨x, hx, ex, x1, x2, x3⟩ := blks_at (hbl.below hBr hblt) hkl
        have hnx := filter_take_next (p := fun x => decide (x ∈ cs)) hkl ex
        have hlc := commonL_length (bs.take k) cs
        have hlc2 : (bs.take k).length ≤ bs.length := by simp; omega
        have hhas := fun W (hb : Below wr.heap.size wr W) => l01Has_any v (.slice a' cs.length c') cs x W ((KSB2.out.below hBr (Nat.le_refl _)).below hb (Nat.le_refl _))
        have q1 := cell_regrown p1
        have q2 := cell_regrown ((hBr.cell (p := ⟨w.heap.size + 1, 0, none⟩) (by show w.heap.size + 1 < _; omega)).trans f0)
        have q3 := cell_regrown ((hBr.cell (p := ⟨w.heap.size + 1, 1, none⟩) (by show w.heap.size + 1 < _; omega)).trans f1)
        have r1 := cell_regrown x1
        have r2 := cell_regrown x2
        have r3 := cell_regrown x3
        have g0 : (0 : Int) ≤ (k : Int) := by omega
        have g1 : (k : Int) < (bs.length : Int) := by omega
        have HO := Lib.hid hO
        obtain ⟨p, q, r⟩ := x
        have HNX := Lib.hid hnx
        dsimp only at x1 x2 x3 r1 r2 r3
        clear hbl hx ex hnx hO
        obtain ⟨a3, n3, c3, rfl⟩ := hform
        by_cases hin : (⟨p, q, r⟩ : Blk) ∈ cs
        · rw [decide_eq_true hin] at hhas
          have HH := Lib.hid hhas
          have HIN := Lib.hid hin
          clear hhas hin
          go_wp2
          refine wp_region_quiet_below (by kernel_rfl) (by kernel_rfl) ?_
          repeat (go_big_quiet_step (exact Calls.regrown_of (HH.out _ (below_regrown _ _ _))))
          refine wpQuiet_nil ?_
          intro _ hw'
          obtain ⟨⟨dq, osq⟩, hw''⟩ := hw'
          subst hw''
          have hbq := below_regrown wr dq osq
          have s1 := q1 dq osq
          have s4 := r1 dq osq
          have s5 := r2 dq osq
          have s6 := r3 dq osq
          obtain ⟨W, hW⟩ : ∃ W, W = Go.Sort.grow (redrawn wr dq) osq := ⟨_, rfl⟩
          rw [← hW] at hbq s1 s4 s5 s6 ⊢
          clear hW q1 q2 q3 r1 r2 r3
          have hO2 := HO.out.below hbq (Nat.le_refl _)
          have HO2 := Lib.hid hO2
          have hBW := hBr.trans (hbq.mono hzr)
          have hzW := hBW.size
          clear hO2
          go_wp2_with (at_builtin; refine wpList_append_blk rfl _ _ rfl w2.heap.size _ (commonL (bs.take k) cs) rfl (HO2.out.below ((Below.refl _ _).alloc (Nat.le_refl _) _) (Nat.le_refl _)) _ _ ⟨p, q, r⟩ rfl (by simp [go_sem]) (by simp [go_sem]) (by simp [go_sem]) (by omega) (by simp; omega) ?_; intro g' cap' w4 hO4 hg4)
          have hrow := HO2.out.row
          have hgo : W.grownBy w4 (Value.slice a3 n3 c3).ownBlock := ⟨hg4.os, hg4.tape, hg4.output, by have := hg4.size; simp at this; omega, fun i hi hne => by
            rw [hg4.block i (by simp; omega) hne, Below.heap_alloc _ _ _ hi]⟩
          have hcl : commonL (bs.take (k + 1)) cs = commonL (bs.take k) cs ++ [⟨p, q, r⟩] := by
            unfold commonL
            rw [HNX.out, if_pos (by simpa using HIN.out)]
          have HCL := Lib.hid hcl
          clear hcl hg4
          go_roundw
          case rel => exact ⟨k + 1, by omega, by go_num, hBW.grown hgo hBW.size (fun j e => hrow j e), by rw [HCL.out]; exact hO4, _, _, _, rfl⟩
          case measure => simp [intOf]; omega
        · rw [decide_eq_false hin] at hhas
          have HH := Lib.hid hhas
          have HIN := Lib.hid hin
          clear hhas hin
          go_wp2
          refine wp_region_quiet_below (by kernel_rfl) (by kernel_rfl) ?_
          repeat (go_big_quiet_step (exact Calls.regrown_of (HH.out _ (below_regrown _ _ _))))
          refine wpQuiet_nil ?_
          intro _ hw'
          obtain ⟨⟨dq, osq⟩, hw''⟩ := hw'
          subst hw''
          have hbq := below_regrown wr dq osq
          have hcl : commonL (bs.take (k + 1)) cs = commonL (bs.take k) cs := by
            unfold commonL
            rw [HNX.out, if_neg (by simpa using HIN.out), List.append_nil]
          have HCL := Lib.hid hcl
          clear hcl
          go_wp2
          go_roundw
          case rel => exact ⟨k + 1, by omega, by go_num, hBr.trans (hbq.mono hzr), by rw [HCL.out]; exact HO.out.below hbq (Nat.le_refl _), _, _, _, rfl⟩
          case measure => simp [intOf]; omega
    · obtain ⟨a3, n3, c3, rfl⟩ := hform
      go_wp2
      go_ret2
      have e : k = bs.length := by omega
      subst e
      rw [List.take_length] at hO
      exact ⟨_, rfl, hO.res.wide (by omega) (Nat.le_refl _), hB2.trans (hBr.mono hB2.size)⟩

theorem specCommon_any (v : Int) (s : Value) (bs : List Blk) (u : Int) (t : Value) (cs : List Blk) (w : World) (h : SB w s bs) (k : SB w t cs) :
    Calls Try.prog 56 #[.agg #[.int .i64 v, s], .agg #[.int .i64 u, t]] w (RLC (commonF v bs u cs) w) := by
  unfold commonF
  cases hb : isSysImpl v bs && isSysImpl u cs with
  | false => exact specCommon_no v s bs u t cs w h k hb
  | true =>
    simp only [Bool.and_eq_true] at hb
    by_cases e : v = u
    · subst e
      rw [if_pos rfl, if_pos rfl]
      exact specCommon_main v s bs t cs w h k hb.1 hb.2
    · rw [if_pos rfl, if_neg e]
      exact specCommon_ne v s bs u t cs w h k hb.1 hb.2 e
end Go.Proofs.Ytomcjifklggcnaa

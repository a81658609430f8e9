
/- The model's test that no pair is in two blocks. -/
import Derived.Test.YtlchcnngikgjjaaSpecA
namespace Go.Proofs.Ytlchcnngikgjjaa
open Go.RowKit Go.Maps
theorem fitsWith_snoc (x y : Blk) (l : List Blk) : fitsWith x (l ++ [y]) = (fitsWith x l && decide (commonN x y ≤ 1)) := by simp [fitsWith]
theorem fitsWith_stop {x y : Blk} {bs : List Blk} {k i : Nat} (hk : k < i) (hy : bs[k]? = some y) (h : ¬ commonN x y ≤ 1) : fitsWith x (bs.take i) = false := by
  rw [fitsWith, List.all_eq_false]
  have hl : k < bs.length := by
    rw [List.getElem?_eq_some_iff] at hy
    exact hy.1
  exact ⟨y, by rw [List.mem_take_iff_getElem]; exact ⟨k, by omega, by rw [List.getElem?_eq_getElem hl] at hy; simpa using hy⟩, by simpa using h⟩
set_option maxRecDepth 100000 in
theorem l01Fits_any (s : Value) (bs : List Blk) (w : World) (h : SB w s bs) : Calls Try.prog 103 #[s] w (RV (.bool (fitsGo [] bs)) w) := by
  obtain ⟨hwf, hlen, h3⟩ := h
  clear hwf
  rcases h3 with ⟨a0, c0, rfl, rfl⟩ | ⟨b, off, cap, rfl, hlt, hbl⟩
  · go_enter Try.func103, Try.ntmps103
    go_wp2
    refine wp_loop_rounds 1 ?_
    rw [rounds_succ]
    go_wp2
    go_ret
    exact RV_of rfl (Below.refl _ _)
  · have HBL := Lib.hid hbl
    clear hbl
    go_enter Try.func103, Try.ntmps103
    go_wp2
    go_loopw [3] (fun i wr => ∃ k : Nat, k ≤ bs.length ∧ i = .int .i64 k ∧ Below w.heap.size w wr ∧ Hid (fitsGo [] bs = fitsGo (bs.take k) (bs.drop k))) (fun i _ => bs.length - (intOf i).toNat)
    case atStart => exact ⟨0, Nat.zero_le _, rfl, Below.refl _ _, Lib.hid (by simp)⟩
    case round =>
      obtain ⟨i, hi, rfl, hB, HE⟩ := hrel
      by_cases hil : i < bs.length
      · obtain ⟨x, hx, ex, xc⟩ := blks_at HBL.out hil
        have ex' : bs[i] = x := by
          rw [List.getElem?_eq_getElem hil] at ex
          simpa using ex
        have E1 : bs.drop i = x :: bs.drop (i + 1) := by rw [List.drop_eq_getElem_cons hil, ex']
        have E2 : bs.take (i + 1) = bs.take i ++ [x] := by rw [take_next hil, ex']
        clear ex'
        rw [E1] at HE
        have E2' := Lib.hid E2
        clear E1 E2 hx ex
        go_wp2
        obtain ⟨wo, hwo⟩ : ∃ wo : World, wo = wr := ⟨_, rfl⟩
        rw [← hwo] at hB ⊢
        clear hwo
        go_loopw [4] (fun j wr => ∃ k : Nat, k ≤ i ∧ j = .int .i64 k ∧ Below w.heap.size w wr ∧ Hid (fitsWith x (bs.take k) = true)) (fun j _ => i - (intOf j).toNat)
        case atStart => exact ⟨0, Nat.zero_le _, rfl, hB, Lib.hid (by simp [fitsWith])⟩
        case round =>
          obtain ⟨k, hk, rfl, hB2, HF⟩ := hrel
          by_cases hkl : k < i
          · obtain ⟨y, hy, ey, yc⟩ := blks_at HBL.out (show k < bs.length by omega)
            have E3 : bs.take (k + 1) = bs.take k ++ [y] := by
              have hkb : k < bs.length := by omega
              have ey' : bs[k] = y := by
                have := ey
                rw [List.getElem?_eq_getElem hkb] at this
                simpa using this
              rw [take_next hkb, ey']
            have E3' := Lib.hid E3
            have EY := Lib.hid ey
            clear E3 hy ey
            have hc := l01Common_any x y
            have hb0 : 0 ≤ (commonN x y : Int) ∧ (commonN x y : Int) ≤ 9 := by
              refine ⟨by omega, ?_⟩
              have := cntLL_le [y.a, y.b, y.c] [x.a, x.b, x.c]
              rw [cntLL_common] at this
              simpa using this.2
            obtain ⟨n, hn⟩ : ∃ n : Int, n = commonN x y := ⟨_, rfl⟩
            rw [← hn] at hc hb0
            have HN := Lib.hid hn
            clear hn
            obtain ⟨hb0, hb9⟩ := hb0
            obtain ⟨x1, x2, x3⟩ := x
            obtain ⟨y1, y2, y3⟩ := y
            have HC := Lib.hid hc
            clear hc
            obtain ⟨c1, c2, c3⟩ := xc
            obtain ⟨d1, d2, d3⟩ := yc
            dsimp only at c1 c2 c3 d1 d2 d3
            have q1 := cell_regrown ((hB2.cell (p := ⟨b, off + i * 3, none⟩) hlt).trans c1)
            have q2 := cell_regrown ((hB2.cell (p := ⟨b, off + i * 3 + 1, none⟩) hlt).trans c2)
            have q3 := cell_regrown ((hB2.cell (p := ⟨b, off + i * 3 + 2, none⟩) hlt).trans c3)
            have r1 := cell_regrown ((hB2.cell (p := ⟨b, off + k * 3, none⟩) hlt).trans d1)
            have r2 := cell_regrown ((hB2.cell (p := ⟨b, off + k * 3 + 1, none⟩) hlt).trans d2)
            have r3 := cell_regrown ((hB2.cell (p := ⟨b, off + k * 3 + 2, none⟩) hlt).trans d3)
            clear c1 c2 c3 d1 d2 d3
            have g0 : (0 : Int) ≤ (i : Int) := by omega
            have g1 : (i : Int) < (bs.length : Int) := by omega
            have g2 : (0 : Int) ≤ (k : Int) := by omega
            have g3 : (k : Int) < (bs.length : Int) := by omega
            go_wp2
            refine wp_region_quiet_below (by kernel_rfl) (by kernel_rfl) ?_
            repeat (go_big_quiet_step (exact Calls.regrown_of (HC.out _)))
            refine wpQuiet_nil ?_
            intro _ hw'
            obtain ⟨⟨dq, osq⟩, hw''⟩ := hw'
            subst hw''
            go_wp2
            · have h1 : 1 < n := by assumption
              go_ret
              exact RV_of (bool_eq (by rw [HE.out, fitsGo, fitsWith_stop hkl EY.out (by have := HN.out; omega)]; simp)) (hB2.trans ((below_regrown _ dq osq).mono hB2.size))
            · have h1 : n ≤ 1 := by assumption
              go_roundw
              case rel => exact ⟨k + 1, by omega, by go_num, hB2.trans ((below_regrown _ dq osq).mono hB2.size), Lib.hid (by rw [E3'.out, fitsWith_snoc, HF.out]; simp; have := HN.out; omega)⟩
              case measure => simp [intOf]; omega
          · go_wp2
            go_roundw
            case rel => exact ⟨i + 1, by omega, by go_num, hB2, Lib.hid (by
              have : k = i := by omega
              rw [HE.out, fitsGo, E2'.out, ← this, HF.out]; simp)⟩
            case measure => simp [intOf]; omega
      · go_wp2
        go_ret
        exact RV_of (bool_eq (by rw [HE.out, List.drop_eq_nil_of_le (by omega), fitsGo])) hB
end Go.Proofs.Ytlchcnngikgjjaa

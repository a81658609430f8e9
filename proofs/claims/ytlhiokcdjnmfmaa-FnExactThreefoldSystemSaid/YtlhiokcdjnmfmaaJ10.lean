
/- ThreefoldSystem: the model. The blocks of a double fit their kinds. Threefold systems: the result's blocks are of int64s, and few. What a law over two systems knows of the memory between two of its steps. What a law over one system whose result is a list of integers knows of the memory between two of its steps. Rows of rows of integers that a call makes by append; the squares of few points. The pairs of a list of blocks, as a map. -/
import Derived.Test.YtlhiokcdjnmfmaaJ9
namespace Go.Proofs.Ytlhiokcdjnmfmaa
open Go.RowKit Go.Maps
theorem box1 {w w1 : World} {T : TypeId} (hb : Below (w.alloc (.cells #[.int .i64 0, .slice none 0 0] T)).heap.size (w.alloc (.cells #[.int .i64 0, .slice none 0 0] T)) w1) :
    w1.cell? ⟨w.heap.size, 0, none⟩ = some (.int .i64 0) ∧ w1.cell? ⟨w.heap.size, 1, none⟩ = some (.slice none 0 0) ∧ w1.frozen? ⟨w.heap.size, 0, none⟩ = false ∧ w1.frozen? ⟨w.heap.size, 1, none⟩ = false ∧ Below w.heap.size w w1 ∧ w.heap.size < w1.heap.size := by
  have hz := hb.size
  simp at hz
  exact ⟨(hb.cell (p := ⟨w.heap.size, 0, none⟩) (by simp)).trans (by simp [go_sem]), (hb.cell (p := ⟨w.heap.size, 1, none⟩) (by simp)).trans (by simp [go_sem]), (hb.frozen (p := ⟨w.heap.size, 0, none⟩) (by simp)).trans (by simp [go_sem]), (hb.frozen (p := ⟨w.heap.size, 1, none⟩) (by simp)).trans (by simp [go_sem]), below_new hb, by omega⟩
theorem upB_is (n x : Nat) (h : 1 ≤ n) : upB n x = blk3 (x : Int) ((n : Int) + x) (2 * (n : Int) + x) := by
  rw [blk3_of (p := (x : Int)) (q := (n : Int) + x) (r := 2 * (n : Int) + x) (by omega) (by omega) (by omega)]
  unfold upB lv
  simp
  omega
theorem mdR_len (n : Nat) (F : Nat → List Int) (i x k : Nat) : (mdR n F i x k).length = k := by simp [mdR]
theorem mdT_len (n i : Nat) (b : Bool) (x : Nat) : (mdT n i b x).length ≤ 1 := by unfold mdT; split <;> simp
theorem mdV_len (n : Nat) (F : Nat → List Int) (i : Nat) (b : Bool) (k : Nat) : (mdV n F i b k).length ≤ k * n := flat_len _ _ _ fun x _ => by
  have := mdT_len n i b x
  rw [List.length_append, mdR_len]
  rcases Nat.eq_zero_or_pos n with rfl | hn
  · simp [mdT]
  · omega
theorem mdL_len (n : Nat) (F : Nat → List Int) (b : Bool) (k : Nat) : (mdL n F b k).length ≤ k * (n * n) := flat_len _ _ _ fun x _ => mdV_len n F x b n
theorem slmd_len (n : Nat) (F : Nat → List Int) (l : Nat) (b : Bool) (hn : n ≤ 5) (hl : l < 3) : (mdL n F b l).length ≤ 50 ∧ ∀ k, k ≤ n → (mdV n F l b k).length ≤ 25 := by
  refine ⟨Nat.le_trans (mdL_len n F b l) (Nat.mul_le_mul (show l ≤ 2 by omega) (Nat.mul_le_mul hn hn)), fun k hk => Nat.le_trans (mdV_len n F l b k) (Nat.mul_le_mul (show k ≤ 5 by omega) hn)⟩
set_option maxRecDepth 100000 in
set_option maxHeartbeats 8000000 in
theorem specThreefold_any (s : Value) (n : Nat) (F : Nat → List Int) (w : World) (h : SSB w s n F) :
    Calls Try.prog 25 #[s] w (RSys (thrF n F) w) := by
  have hb0 : Below w.heap.size w (w.alloc (.cells #[.int .i64 0, .slice none 0 0] 31)) := (Below.refl _ _).alloc (Nat.le_refl _) _
  have HSQ := Lib.hid (l02Square_any s n F _ (h.below hb0 (Nat.le_refl _)))
  have HSS := Lib.hid h
  obtain ⟨a, c, rfl⟩ := h.slice
  clear h hb0
  cases hsq : sqB n F with
  | false =>
    have hval : thrF n F = (0, [], 2) := by unfold thrF; rw [if_neg (by rw [hsq]; decide)]
    rw [hval]
    rw [hsq] at HSQ
    clear hval hsq
    go_enter Try.func25, Try.ntmps25
    go_wp2_with fail
    refine HSQ.out.mono ?_
    rintro e w1 ⟨rfl, hb1⟩
    obtain ⟨d0, d1, f0, f1, hbw, hlt⟩ := box1 hb1
    clear hb1
    go_wp2
    exact bodyPost_ret (v := .tuple #[.agg #[.int .i64 0, .slice none 0 0], .int .i64 2]) (by simp [results, Try.results25, go_sem, *]) rfl ⟨_, rfl, .inl ⟨rfl, _, _, rfl⟩, below_set2 hbw (Nat.le_refl _) _ _⟩
  | true =>
  obtain ⟨h2, h5, hl, hr⟩ := sq_range hsq
  have HAT := Lib.hid fun W (hb : Below w.heap.size w W) => sq_at (HSS.out.below hb (Nat.le_refl _)) hl
  have HRG := Lib.hid hr
  have HKD := Lib.hid fun W (hb : Below w.heap.size w W) => l02Kinds_any _ n F W h2 h5 (HSS.out.below hb (Nat.le_refl _)) hl
  obtain ⟨m, hm⟩ : ∃ m, m = n / 2 := ⟨_, rfl⟩
  have htd : (n : Int).tdiv 2 = (m : Int) := by rw [Int.tdiv_eq_ediv_of_nonneg (by omega), hm]; omega
  have HMM := Lib.hid hm
  clear hl hr hm
  by_cases hst : comB n F = true ∧ (diaB n F n = true ∨ halfB n F = true)
  case neg =>
    have hval : thrF n F = (0, [], 5) := by unfold thrF; rw [if_pos hsq, if_neg hst]
    rw [hval]
    rw [hsq] at HSQ
    obtain ⟨p, hp⟩ : ∃ p, p = comB n F := ⟨_, rfl⟩
    obtain ⟨q, hq⟩ : ∃ q, q = diaB n F n := ⟨_, rfl⟩
    obtain ⟨r, hr⟩ : ∃ r, r = halfB n F := ⟨_, rfl⟩
    rw [← hp, ← hq, ← hr] at HKD hst
    clear hval hsq hp hq hr
    have hcs : p = false ∨ (p = true ∧ q = false ∧ r = false) := by
      cases p <;> cases q <;> cases r <;> simp at hst ⊢
    clear hst
    rcases hcs with rfl | ⟨rfl, rfl, rfl⟩
    all_goals
      go_enter Try.func25, Try.ntmps25
      go_wp2_with fail
      refine HSQ.out.mono ?_
      rintro e w1 ⟨rfl, hb1⟩
      obtain ⟨d0, d1, f0, f1, hbw, hlt⟩ := box1 hb1
      clear hb1
      go_wp2_with fail
      refine (HKD.out _ hbw).mono ?_
      rintro e w2 ⟨rfl, hb2⟩
      have hz2 := hb2.size
      have e0 := (hb2.cell (p := ⟨w.heap.size, 0, none⟩) hlt).trans d0
      have e1 := (hb2.cell (p := ⟨w.heap.size, 1, none⟩) hlt).trans d1
      have e2 := (hb2.frozen (p := ⟨w.heap.size, 0, none⟩) hlt).trans f0
      have e3 := (hb2.frozen (p := ⟨w.heap.size, 1, none⟩) hlt).trans f1
      have hbw2 := hbw.trans (hb2.mono (by omega))
      clear d0 d1 f0 f1 hb2 hbw
      go_wp2
      exact bodyPost_ret (v := .tuple #[.agg #[.int .i64 0, .slice none 0 0], .int .i64 5]) (by simp [results, Try.results25, go_sem, *]) rfl ⟨_, rfl, .inl ⟨rfl, _, _, rfl⟩, below_set2 hbw2 (Nat.le_refl _) _ _⟩
  obtain ⟨hc, hih⟩ := hst
  rw [hc] at HKD
  cases hi : diaB n F n
  case' true => rw [hi] at HKD; clear hih
  case' false =>
    have hh : halfB n F = true := by rcases hih with e | e; · rw [hi] at e; cases e
                                     · exact e
    rw [hi, hh] at HKD; clear hih
  · have hK : m ≤ 5 := by have := HMM.out; omega
    have hTG : thrF n F = (3 * (n : Int) + 1, sortB (thrL n F), 0) := by simp [thrF, hsq, hc, hi, hh]
    rw [hTG]
    have hPP := thr_perm n F
    rw [hi] at hPP
    simp only [Bool.false_eq_true, if_false, ← HMM.out] at hPP
    have HP := Lib.hid (show sortB (upL n m ++ mdL n F false 3) = sortB (thrL n F) from sortB_of_perm hPP)
    have HLEN := Lib.hid (show (upL n m ++ mdL n F false 3).length ≤ 200 by rw [hPP.length_eq]; exact thrL_len F h5)
    rw [← HP.out]
    clear hTG hPP hc hi hh
    have HSQ' := HSQ.out
    rw [hsq] at HSQ'
    have HSQ1 := Lib.hid HSQ'
    clear HSQ' hsq
    go_enter Try.func25, Try.ntmps25
    go_wp2_with fail
    refine HSQ1.out.mono ?_
    rintro e w1 ⟨rfl, hb1⟩
    obtain ⟨d0, d1, f0, f1, hbw, hlt⟩ := box1 hb1
    clear hb1
    go_wp2_with fail
    refine (HKD.out _ hbw).mono ?_
    rintro e w2 ⟨rfl, hb2⟩
    have hz2 := hb2.size
    have e0 := (hb2.cell (p := ⟨w.heap.size, 0, none⟩) hlt).trans d0
    have e1 := (hb2.cell (p := ⟨w.heap.size, 1, none⟩) hlt).trans d1
    have e2 := (hb2.frozen (p := ⟨w.heap.size, 0, none⟩) hlt).trans f0
    have e3 := (hb2.frozen (p := ⟨w.heap.size, 1, none⟩) hlt).trans f1
    have hbw2 := hbw.trans (hb2.mono (by omega))
    have hlt2 : w.heap.size < w2.heap.size := by omega
    have HO0 := Lib.hid (lit_own w2)
    have HBW := Lib.hid hbw2
    have HE := Lib.hid (And.intro e0 (And.intro e1 (And.intro e2 e3)))
    clear d0 d1 f0 f1 hb2 hbw hbw2 e0 e1 e2 e3
    go_wp2_with fail
    go_loopw [8, 11] (fun o i wr => ∃ x : Nat, x ≤ m ∧ i = .int .i64 x ∧ Below w2.heap.size w2 wr ∧ OwnR wr w2.heap.size o (upL n x) ∧ ∃ a n c, o = .slice a n c) (fun _ i _ => m - (intOf i).toNat)
    case atStart => exact ⟨0, Nat.zero_le _, rfl, (Below.refl _ _).alloc (Nat.le_refl _) _, HO0.out, _, _, _, rfl⟩
    case round =>
      obtain ⟨x, hx, rfl, hB, hO, a3, n3, c3, rfl⟩ := hrel
      have HB := Lib.hid hB
      have HOV := Lib.hid hO
      have hz := hB.size
      clear hB hO
      by_cases hxl : x < m
      · have HS := Lib.hid (upL_succ n x)
        have hlen : (upL n x).length ≤ 5 := by rw [upL_len]; omega
        obtain ⟨t, ht⟩ : ∃ t, t = blk3 (x : Int) ((n : Int) + x) (2 * (n : Int) + x) := ⟨_, rfl⟩
        have HUB := Lib.hid (show upB n x = t by rw [ht]; exact upB_is n x (by omega))
        have HT := Lib.hid ht
        clear ht
        go_wp2_with fail
        refine (l01Block_any (x : Int) ((n : Int) + x) (2 * (n : Int) + x) _ (by omega) (by omega) (by omega) (by omega) (by omega) (by omega)).mono ?_
        rintro e w4 ⟨rfl, hb4⟩
        have hz4 := hb4.size
        have HB4 := Lib.hid hb4
        have HOX := Lib.hid (HOV.out.below hb4 (Nat.le_refl _))
        rw [← HT.out]
        obtain ⟨ta, tb, tc⟩ := t
        unfold bv
        dsimp only
        clear hb4
        go_wp2_with (at_builtin; refine wpList_append_blk rfl _ _ rfl w2.heap.size _ (upL n x) rfl (HOX.out.below ((Below.refl _ _).alloc (Nat.le_refl _) _) (Nat.le_refl _)) _ _ ⟨ta, tb, tc⟩ rfl (by simp [go_sem]) (by simp [go_sem]) (by simp [go_sem]) (by omega) (by simp; omega) ?_; intro g' cap' w5 hO5 hg5)
        have hrow := HOX.out.row
        have hgo : w4.grownBy w5 (Value.slice a3 n3 c3).ownBlock := ⟨hg5.os, hg5.tape, hg5.output, by have := hg5.size; simp at this; omega, fun i hi hne => by
          rw [hg5.block i (by simp; omega) hne, Below.heap_alloc _ _ _ hi]⟩
        clear hg5
        go_roundw
        case rel => exact ⟨x + 1, by omega, by go_num, (HB.out.trans (HB4.out.mono hz)).grown hgo (by omega) (fun j e => hrow j e), by rw [HS.out, HUB.out]; exact hO5, _, _, _, rfl⟩
        case measure => simp [intOf]; omega
      · have e : x = m := by omega
        obtain ⟨U, hU⟩ : ∃ U, U = upL n m := ⟨_, rfl⟩
        rw [e, ← hU] at HOV
        have hUl : U.length ≤ 5 := by rw [hU, upL_len]; exact hK
        have HU := Lib.hid hU
        have dx : decide (x < m) = false := by simp; omega
        have dx2 : (m : Int) ≤ (x : Int) := by omega
        clear hU e hxl hx
        obtain ⟨W3, rfl⟩ : ∃ W3, W3 = wr := ⟨_, rfl⟩
        go_wp2_with fail
        clear dx dx2
        go_loopw [8, 12] (fun o i wr => ∃ l : Nat, l ≤ 3 ∧ i = .int .i64 l ∧ Below w2.heap.size w2 wr ∧ OwnR wr w2.heap.size o (U ++ mdL n F false l) ∧ ∃ a n c, o = .slice a n c) (fun _ i _ => 3 - (intOf i).toNat)
        case atStart => exact ⟨0, Nat.zero_le _, rfl, HB.out, by simpa [mdL] using HOV.out, _, _, _, rfl⟩
        case round =>
          obtain ⟨l, hl, rfl, hB, hO, a4, n4, c4, rfl⟩ := hrel
          have HB := Lib.hid hB
          have HOV := Lib.hid hO
          have hz := hB.size
          clear hB hO
          by_cases hll : l < 3
          · have dl : decide ((l : Int) < 3) = true := by simp; omega
            obtain ⟨P, hP⟩ : ∃ P : Int, P = (n : Int) * (l : Int) := ⟨_, rfl⟩
            obtain ⟨r, hr⟩ : ∃ r : Nat, r = (l + 1) % 3 := ⟨_, rfl⟩
            obtain ⟨Q, hQ⟩ : ∃ Q : Int, Q = (n : Int) * (r : Int) := ⟨_, rfl⟩
            have hPN : P = ((n * l : Nat) : Int) := by rw [hP]; simp
            have hQN : Q = ((n * r : Nat) : Int) := by rw [hQ]; simp
            have hP0 : 0 ≤ P := by omega
            have hQ0 : 0 ≤ Q := by omega
            have hr3 : r < 3 := by omega
            have hP9 : P ≤ 10 := by have : n * l ≤ 5 * 2 := Nat.mul_le_mul h5 (by omega); omega
            have hQ9 : Q ≤ 10 := by have : n * r ≤ 5 * 2 := Nat.mul_le_mul h5 (by omega); omega
            have HLV := Lib.hid (show ∀ z, lv n l z = P + z from fun z => by unfold lv; rw [hPN, show l % 3 = l by omega])
            have HLW := Lib.hid (show ∀ z, lv n (l + 1) z = Q + z from fun z => by unfold lv; rw [hQN, hr])
            have hw1 : IntKind.i64.wrap ((l : Int) + 1) = (l : Int) + 1 := IntWalk.i64_in _ (by omega)
            have htm : ((l : Int) + 1).tmod 3 = (r : Int) := by rw [Int.tmod_eq_emod_of_nonneg (by omega), hr]; omega
            have hP' := hP.symm
            have hQ' := hQ.symm
            have h3 := slmd_len n F l false h5 hll
            clear hP hQ hPN hQN hr
            obtain ⟨M1, hM1⟩ : ∃ M1, M1 = U ++ mdL n F false l := ⟨_, rfl⟩
            rw [← hM1] at HOV
            have hM1l : M1.length ≤ 60 := by rw [hM1, List.length_append]; omega
            have HM1 := Lib.hid hM1
            have H3 := Lib.hid h3.2
            clear hM1 h3
            obtain ⟨W4, rfl⟩ : ∃ W4, W4 = wr := ⟨_, rfl⟩
            go_wp2_with fail
            go_loopw [8, 15] (fun o i wr => ∃ x : Nat, x ≤ n ∧ i = .int .i64 x ∧ Below w2.heap.size w2 wr ∧ OwnR wr w2.heap.size o (M1 ++ mdV n F l false x) ∧ ∃ a n c, o = .slice a n c) (fun _ i _ => n - (intOf i).toNat)
            case atStart => exact ⟨0, Nat.zero_le _, rfl, HB.out, by simpa [mdV] using HOV.out, _, _, _, rfl⟩
            case round =>
              obtain ⟨x, hx, rfl, hB, hO, a5, n5, c5, rfl⟩ := hrel
              have HB := Lib.hid hB
              have HOV := Lib.hid hO
              have hz := hB.size
              clear hB hO
              by_cases hxl : x < n
              · have HS := Lib.hid (mdV_succ n F l false x)
                have h25 := H3.out x hx
                obtain ⟨M2, hM2⟩ : ∃ M2, M2 = M1 ++ mdV n F l false x := ⟨_, rfl⟩
                rw [← hM2] at HOV
                have hM2l : M2.length ≤ 90 := by rw [hM2, List.length_append]; omega
                have HM2 := Lib.hid hM2
                clear hM2 h25
                have hwx : IntKind.i64.wrap ((x : Int) + 1) = (x : Int) + 1 := IntWalk.i64_in _ (by omega)
                obtain ⟨W5, rfl⟩ : ∃ W5, W5 = wr := ⟨_, rfl⟩
                go_wp2_with fail
                go_loopw [8, 16] (fun o i wr => ∃ j : Nat, j ≤ n - 1 - x ∧ i = .int .i64 ((x : Int) + 1 + (j : Int)) ∧ Below w2.heap.size w2 wr ∧ OwnR wr w2.heap.size o (M2 ++ mdR n F l x j) ∧ ∃ a n c, o = .slice a n c) (fun _ i _ => n - (intOf i).toNat)
                case atStart => exact ⟨0, Nat.zero_le _, by simp, HB.out, by simpa [mdR] using HOV.out, _, _, _, rfl⟩
                case round =>
                  obtain ⟨j, hj, rfl, hB, hO, a6, n6, c6, rfl⟩ := hrel
                  have HB := Lib.hid hB
                  have HOV := Lib.hid hO
                  have hz := hB.size
                  clear hB hO
                  by_cases hjl : j < n - 1 - x
                  · have hyl : x + 1 + j < n := by omega
                    have HS2 := Lib.hid (mdR_succ n F l x j)
                    have hrl := mdR_len n F l x j
                    obtain ⟨b, off, bx, ox, cx, e1, hlt, hltx, p1, p2⟩ := HAT.out wr (HBW.out.trans (HB.out.mono (by omega))) x (x + 1 + j) hxl hyl
                    have hg := HRG.out x (x + 1 + j) hxl hyl
                    obtain ⟨y, hy⟩ : ∃ y, y = x + 1 + j := ⟨_, rfl⟩
                    rw [← hy] at p2 hg hyl
                    have hyi : (x : Int) + 1 + (j : Int) = (y : Int) := by omega
                    obtain ⟨d, hd⟩ : ∃ d, d = at2 F x y := ⟨_, rfl⟩
                    obtain ⟨t, ht⟩ : ∃ t, t = blk3 (P + (x : Int)) (P + (y : Int)) (Q + d) := ⟨_, rfl⟩
                    have HTB := Lib.hid (show slB n F l x (x + 1 + j) = t by unfold slB; rw [← hy, ← hd, HLV.out, HLV.out, HLW.out, ht])
                    rw [← hd] at p2 hg
                    have HT := Lib.hid ht
                    obtain ⟨M3, hM3⟩ : ∃ M3, M3 = M2 ++ mdR n F l x j := ⟨_, rfl⟩
                    rw [← hM3] at HOV
                    have hM3l : M3.length ≤ 100 := by rw [hM3, List.length_append]; omega
                    have HM3 := Lib.hid hM3
                    have HYI := Lib.hid hyi
                    have g0 : (0 : Int) ≤ (x : Int) := by omega
                    have g1 : (x : Int) < (n : Int) := by omega
                    have g2 : (0 : Int) ≤ (y : Int) := by omega
                    have g3 : (y : Int) < (n : Int) := by omega
                    have hj2 : y + 1 = x + 1 + (j + 1) := by omega
                    clear hd ht hM3 hrl hy
                    subst e1
                    rw [hyi]
                    clear hyi
                    go_wp2_with fail
                    refine (l01Block_any (P + (x : Int)) (P + (y : Int)) (Q + d) _ (by omega) (by omega) (by omega) (by omega) (by omega) (by omega)).mono ?_
                    rintro e w4 ⟨rfl, hb4⟩
                    have hz4 := hb4.size
                    have HB4 := Lib.hid hb4
                    have HOX := Lib.hid (HOV.out.below hb4 (Nat.le_refl _))
                    rw [← HT.out]
                    obtain ⟨ta, tb, tc⟩ := t
                    unfold bv
                    dsimp only
                    clear hb4
                    go_wp2_with (at_builtin; refine wpList_append_blk rfl _ _ rfl w2.heap.size _ M3 rfl (HOX.out.below ((Below.refl _ _).alloc (Nat.le_refl _) _) (Nat.le_refl _)) _ _ ⟨ta, tb, tc⟩ rfl (by simp [go_sem]) (by simp [go_sem]) (by simp [go_sem]) (by omega) (by simp; omega) ?_; intro g' cap' w5 hO5 hg5)
                    have hrow := HOX.out.row
                    have hgo : w4.grownBy w5 (Value.slice a6 n6 c6).ownBlock := ⟨hg5.os, hg5.tape, hg5.output, by have := hg5.size; simp at this; omega, fun i hi hne => by
                      rw [hg5.block i (by simp; omega) hne, Below.heap_alloc _ _ _ hi]⟩
                    clear hg5
                    go_roundw
                    case rel => exact ⟨j + 1, by omega, by congr 1; omega, (HB.out.trans (HB4.out.mono hz)).grown hgo (by omega) (fun j e => hrow j e), by rw [HS2.out, HTB.out, ← List.append_assoc, ← HM3.out]; exact hO5, _, _, _, rfl⟩
                    case measure => simp [intOf]; omega
                  · have e : j = n - 1 - x := by omega
                    have hyi : (n : Int) ≤ (x : Int) + 1 + (j : Int) := by omega
                    have hjb : (j : Int) ≤ 5 := by omega
                    obtain ⟨M3, hM3⟩ : ∃ M3, M3 = M2 ++ mdR n F l x j := ⟨_, rfl⟩
                    rw [← hM3] at HOV
                    have hM3l : M3.length ≤ 100 := by rw [hM3, List.length_append, mdR_len]; omega
                    have HM3 := Lib.hid (show M1 ++ mdV n F l false (x + 1) = M3 ++ mdT n l false x by rw [HS.out, ← List.append_assoc, ← List.append_assoc, ← HM2.out, hM3, e])
                    clear hM3 e hjl hj
                    by_cases hxm : x < m
                    · have hxm2 : (x : Int) < (m : Int) := by omega
                      have hmb : (m : Int) ≤ 2 := by have := HMM.out; omega
                      obtain ⟨t, ht⟩ : ∃ t, t = blk3 (3 * (n : Int)) (P + (m : Int) + (x : Int)) (Q + (x : Int)) := ⟨_, rfl⟩
                      have HTB := Lib.hid (show mdT n l false x = [t] by
                        unfold mdT tipB
                        rw [if_pos ⟨rfl, by rw [← HMM.out]; exact hxm⟩, HLV.out, HLW.out, ← HMM.out, ht]
                        congr 2
                        simp
                        omega)
                      have HT := Lib.hid ht
                      clear ht
                      go_wp2_with fail
                      refine (l01Block_any (3 * (n : Int)) (P + (m : Int) + (x : Int)) (Q + (x : Int)) _ (by omega) (by omega) (by omega) (by omega) (by omega) (by omega)).mono ?_
                      rintro e w4 ⟨rfl, hb4⟩
                      have hz4 := hb4.size
                      have HB4 := Lib.hid hb4
                      have HOX := Lib.hid (HOV.out.below hb4 (Nat.le_refl _))
                      rw [← HT.out]
                      obtain ⟨ta, tb, tc⟩ := t
                      unfold bv
                      dsimp only
                      clear hb4
                      go_wp2_with (at_builtin; refine wpList_append_blk rfl _ _ rfl w2.heap.size _ M3 rfl (HOX.out.below ((Below.refl _ _).alloc (Nat.le_refl _) _) (Nat.le_refl _)) _ _ ⟨ta, tb, tc⟩ rfl (by simp [go_sem]) (by simp [go_sem]) (by simp [go_sem]) (by omega) (by simp; omega) ?_; intro g' cap' w5 hO5 hg5)
                      have hrow := HOX.out.row
                      have hgo : w4.grownBy w5 (Value.slice a6 n6 c6).ownBlock := ⟨hg5.os, hg5.tape, hg5.output, by have := hg5.size; simp at this; omega, fun i hi hne => by
                        rw [hg5.block i (by simp; omega) hne, Below.heap_alloc _ _ _ hi]⟩
                      clear hg5
                      go_roundw
                      case rel => exact ⟨x + 1, by omega, by go_num, (HB.out.trans (HB4.out.mono hz)).grown hgo (by omega) (fun j e => hrow j e), by rw [HM3.out, HTB.out]; exact hO5, _, _, _, rfl⟩
                      case measure => simp [intOf]; omega
                    · have hxm2 : (m : Int) ≤ (x : Int) := by omega
                      have HT0 := Lib.hid (show mdT n l false x = [] by unfold mdT; rw [if_neg (by rw [← HMM.out]; intro e; exact hxm e.2)])
                      go_wp2_with fail
                      go_roundw
                      case rel => exact ⟨x + 1, by omega, by go_num, HB.out, by rw [HM3.out, HT0.out, List.append_nil]; exact HOV.out, _, _, _, rfl⟩
                      case measure => simp [intOf]; omega
              · have e : x = n := by omega
                have HS := Lib.hid (mdL_succ n F false l)
                have HX := Lib.hid e
                have dx3 : (n : Int) ≤ (x : Int) := by omega
                clear e hxl hx
                go_wp2_with fail
                go_roundw
                case rel => exact ⟨l + 1, by omega, by go_num, HB.out, by rw [HS.out, ← List.append_assoc, ← HM1.out]; have := HOV.out; rwa [HX.out] at this, _, _, _, rfl⟩
                case measure => simp [intOf]; omega
          · have e : l = 3 := by omega
            subst e
            rw [HU.out] at HOV
            have hL := HLEN.out
            obtain ⟨M, hM⟩ : ∃ M, M = upL n m ++ mdL n F false 3 := ⟨_, rfl⟩
            rw [← hM] at HOV hL
            have HMD := Lib.hid hM
            have HLM := Lib.hid (l01Made_any (3 * (n : Int) + 1) _ M wr (HOV.out.sx) (by omega))
            have e0 := (HB.out.cell (p := ⟨w.heap.size, 0, none⟩) hlt2).trans HE.out.1
            have e1 := (HB.out.cell (p := ⟨w.heap.size, 1, none⟩) hlt2).trans HE.out.2.1
            have e2 := (HB.out.frozen (p := ⟨w.heap.size, 0, none⟩) hlt2).trans HE.out.2.2.1
            have e3 := (HB.out.frozen (p := ⟨w.heap.size, 1, none⟩) hlt2).trans HE.out.2.2.2
            clear hM hL
            go_wp2_with fail
            refine HLM.out.mono ?_
            rintro e w6 ⟨u6, rfl, hr6, hb6⟩
            obtain ⟨a6, c6, hu6⟩ := hr6.slice
            subst hu6
            have hz6 := hb6.size
            have y0 := (hb6.cell (p := ⟨w.heap.size, 0, none⟩) (by simp; omega)).trans e0
            have y1 := (hb6.cell (p := ⟨w.heap.size, 1, none⟩) (by simp; omega)).trans e1
            have y2 := (hb6.frozen (p := ⟨w.heap.size, 0, none⟩) (by simp; omega)).trans e2
            have y3 := (hb6.frozen (p := ⟨w.heap.size, 1, none⟩) (by simp; omega)).trans e3
            have hB6 := (HBW.out.trans (HB.out.mono (by omega))).trans (hb6.mono (by omega))
            clear e0 e1 e2 e3 hb6
            go_wp2
            have hfin := (hr6.kept (gb_set2 w6 w.heap.size (.int .i64 (3 * (n : Int) + 1)) (.slice a6 (sortB M).length c6)) (fun r e => by cases e; exact .inl (by omega))).wide (lo' := w.heap.size) (by omega) (gb_set2 w6 w.heap.size (.int .i64 (3 * (n : Int) + 1)) (.slice a6 (sortB M).length c6)).size
            exact bodyPost_ret (v := .tuple #[.agg #[.int .i64 (3 * (n : Int) + 1), .slice a6 (sortB M).length c6], .int .i64 0]) (by simp [results, Try.results25, go_sem, *]) rfl ⟨_, rfl, by rw [← HMD.out]; exact hfin, below_set2 hB6 (Nat.le_refl _) _ _⟩
  · have hK : n ≤ 5 := by omega
    have hTG : thrF n F = (3 * (n : Int), sortB (thrL n F), 0) := by simp [thrF, hsq, hc, hi]
    rw [hTG]
    have hPP := thr_perm n F
    rw [hi] at hPP
    simp only [if_true] at hPP
    have HP := Lib.hid (show sortB (upL n n ++ mdL n F true 3) = sortB (thrL n F) from sortB_of_perm hPP)
    have HLEN := Lib.hid (show (upL n n ++ mdL n F true 3).length ≤ 200 by rw [hPP.length_eq]; exact thrL_len F h5)
    rw [← HP.out]
    clear hTG hPP hc hi
    have HSQ' := HSQ.out
    rw [hsq] at HSQ'
    have HSQ1 := Lib.hid HSQ'
    clear HSQ' hsq
    go_enter Try.func25, Try.ntmps25
    go_wp2_with fail
    refine HSQ1.out.mono ?_
    rintro e w1 ⟨rfl, hb1⟩
    obtain ⟨d0, d1, f0, f1, hbw, hlt⟩ := box1 hb1
    clear hb1
    go_wp2_with fail
    refine (HKD.out _ hbw).mono ?_
    rintro e w2 ⟨rfl, hb2⟩
    have hz2 := hb2.size
    have e0 := (hb2.cell (p := ⟨w.heap.size, 0, none⟩) hlt).trans d0
    have e1 := (hb2.cell (p := ⟨w.heap.size, 1, none⟩) hlt).trans d1
    have e2 := (hb2.frozen (p := ⟨w.heap.size, 0, none⟩) hlt).trans f0
    have e3 := (hb2.frozen (p := ⟨w.heap.size, 1, none⟩) hlt).trans f1
    have hbw2 := hbw.trans (hb2.mono (by omega))
    have hlt2 : w.heap.size < w2.heap.size := by omega
    have HO0 := Lib.hid (lit_own w2)
    have HBW := Lib.hid hbw2
    have HE := Lib.hid (And.intro e0 (And.intro e1 (And.intro e2 e3)))
    clear d0 d1 f0 f1 hb2 hbw hbw2 e0 e1 e2 e3
    go_wp2_with fail
    go_loopw [8, 11] (fun o i wr => ∃ x : Nat, x ≤ n ∧ i = .int .i64 x ∧ Below w2.heap.size w2 wr ∧ OwnR wr w2.heap.size o (upL n x) ∧ ∃ a n c, o = .slice a n c) (fun _ i _ => n - (intOf i).toNat)
    case atStart => exact ⟨0, Nat.zero_le _, rfl, (Below.refl _ _).alloc (Nat.le_refl _) _, HO0.out, _, _, _, rfl⟩
    case round =>
      obtain ⟨x, hx, rfl, hB, hO, a3, n3, c3, rfl⟩ := hrel
      have HB := Lib.hid hB
      have HOV := Lib.hid hO
      have hz := hB.size
      clear hB hO
      by_cases hxl : x < n
      · have HS := Lib.hid (upL_succ n x)
        have hlen : (upL n x).length ≤ 5 := by rw [upL_len]; omega
        obtain ⟨t, ht⟩ : ∃ t, t = blk3 (x : Int) ((n : Int) + x) (2 * (n : Int) + x) := ⟨_, rfl⟩
        have HUB := Lib.hid (show upB n x = t by rw [ht]; exact upB_is n x (by omega))
        have HT := Lib.hid ht
        clear ht
        go_wp2_with fail
        refine (l01Block_any (x : Int) ((n : Int) + x) (2 * (n : Int) + x) _ (by omega) (by omega) (by omega) (by omega) (by omega) (by omega)).mono ?_
        rintro e w4 ⟨rfl, hb4⟩
        have hz4 := hb4.size
        have HB4 := Lib.hid hb4
        have HOX := Lib.hid (HOV.out.below hb4 (Nat.le_refl _))
        rw [← HT.out]
        obtain ⟨ta, tb, tc⟩ := t
        unfold bv
        dsimp only
        clear hb4
        go_wp2_with (at_builtin; refine wpList_append_blk rfl _ _ rfl w2.heap.size _ (upL n x) rfl (HOX.out.below ((Below.refl _ _).alloc (Nat.le_refl _) _) (Nat.le_refl _)) _ _ ⟨ta, tb, tc⟩ rfl (by simp [go_sem]) (by simp [go_sem]) (by simp [go_sem]) (by omega) (by simp; omega) ?_; intro g' cap' w5 hO5 hg5)
        have hrow := HOX.out.row
        have hgo : w4.grownBy w5 (Value.slice a3 n3 c3).ownBlock := ⟨hg5.os, hg5.tape, hg5.output, by have := hg5.size; simp at this; omega, fun i hi hne => by
          rw [hg5.block i (by simp; omega) hne, Below.heap_alloc _ _ _ hi]⟩
        clear hg5
        go_roundw
        case rel => exact ⟨x + 1, by omega, by go_num, (HB.out.trans (HB4.out.mono hz)).grown hgo (by omega) (fun j e => hrow j e), by rw [HS.out, HUB.out]; exact hO5, _, _, _, rfl⟩
        case measure => simp [intOf]; omega
      · have e : x = n := by omega
        obtain ⟨U, hU⟩ : ∃ U, U = upL n n := ⟨_, rfl⟩
        rw [e, ← hU] at HOV
        have hUl : U.length ≤ 5 := by rw [hU, upL_len]; exact hK
        have HU := Lib.hid hU
        have dx : decide (x < n) = false := by simp; omega
        have dx2 : (n : Int) ≤ (x : Int) := by omega
        clear hU e hxl hx
        obtain ⟨W3, rfl⟩ : ∃ W3, W3 = wr := ⟨_, rfl⟩
        go_wp2_with fail
        clear dx dx2
        go_loopw [8, 12] (fun o i wr => ∃ l : Nat, l ≤ 3 ∧ i = .int .i64 l ∧ Below w2.heap.size w2 wr ∧ OwnR wr w2.heap.size o (U ++ mdL n F true l) ∧ ∃ a n c, o = .slice a n c) (fun _ i _ => 3 - (intOf i).toNat)
        case atStart => exact ⟨0, Nat.zero_le _, rfl, HB.out, by simpa [mdL] using HOV.out, _, _, _, rfl⟩
        case round =>
          obtain ⟨l, hl, rfl, hB, hO, a4, n4, c4, rfl⟩ := hrel
          have HB := Lib.hid hB
          have HOV := Lib.hid hO
          have hz := hB.size
          clear hB hO
          by_cases hll : l < 3
          · have dl : decide ((l : Int) < 3) = true := by simp; omega
            obtain ⟨P, hP⟩ : ∃ P : Int, P = (n : Int) * (l : Int) := ⟨_, rfl⟩
            obtain ⟨r, hr⟩ : ∃ r : Nat, r = (l + 1) % 3 := ⟨_, rfl⟩
            obtain ⟨Q, hQ⟩ : ∃ Q : Int, Q = (n : Int) * (r : Int) := ⟨_, rfl⟩
            have hPN : P = ((n * l : Nat) : Int) := by rw [hP]; simp
            have hQN : Q = ((n * r : Nat) : Int) := by rw [hQ]; simp
            have hP0 : 0 ≤ P := by omega
            have hQ0 : 0 ≤ Q := by omega
            have hr3 : r < 3 := by omega
            have hP9 : P ≤ 10 := by have : n * l ≤ 5 * 2 := Nat.mul_le_mul h5 (by omega); omega
            have hQ9 : Q ≤ 10 := by have : n * r ≤ 5 * 2 := Nat.mul_le_mul h5 (by omega); omega
            have HLV := Lib.hid (show ∀ z, lv n l z = P + z from fun z => by unfold lv; rw [hPN, show l % 3 = l by omega])
            have HLW := Lib.hid (show ∀ z, lv n (l + 1) z = Q + z from fun z => by unfold lv; rw [hQN, hr])
            have hw1 : IntKind.i64.wrap ((l : Int) + 1) = (l : Int) + 1 := IntWalk.i64_in _ (by omega)
            have htm : ((l : Int) + 1).tmod 3 = (r : Int) := by rw [Int.tmod_eq_emod_of_nonneg (by omega), hr]; omega
            have hP' := hP.symm
            have hQ' := hQ.symm
            have h3 := slmd_len n F l true h5 hll
            clear hP hQ hPN hQN hr
            obtain ⟨M1, hM1⟩ : ∃ M1, M1 = U ++ mdL n F true l := ⟨_, rfl⟩
            rw [← hM1] at HOV
            have hM1l : M1.length ≤ 60 := by rw [hM1, List.length_append]; omega
            have HM1 := Lib.hid hM1
            have H3 := Lib.hid h3.2
            clear hM1 h3
            obtain ⟨W4, rfl⟩ : ∃ W4, W4 = wr := ⟨_, rfl⟩
            go_wp2_with fail
            go_loopw [8, 15] (fun o i wr => ∃ x : Nat, x ≤ n ∧ i = .int .i64 x ∧ Below w2.heap.size w2 wr ∧ OwnR wr w2.heap.size o (M1 ++ mdV n F l true x) ∧ ∃ a n c, o = .slice a n c) (fun _ i _ => n - (intOf i).toNat)
            case atStart => exact ⟨0, Nat.zero_le _, rfl, HB.out, by simpa [mdV] using HOV.out, _, _, _, rfl⟩
            case round =>
              obtain ⟨x, hx, rfl, hB, hO, a5, n5, c5, rfl⟩ := hrel
              have HB := Lib.hid hB
              have HOV := Lib.hid hO
              have hz := hB.size
              clear hB hO
              by_cases hxl : x < n
              · have HS := Lib.hid (mdV_succ n F l true x)
                have h25 := H3.out x hx
                obtain ⟨M2, hM2⟩ : ∃ M2, M2 = M1 ++ mdV n F l true x := ⟨_, rfl⟩
                rw [← hM2] at HOV
                have hM2l : M2.length ≤ 90 := by rw [hM2, List.length_append]; omega
                have HM2 := Lib.hid hM2
                clear hM2 h25
                have hwx : IntKind.i64.wrap ((x : Int) + 1) = (x : Int) + 1 := IntWalk.i64_in _ (by omega)
                obtain ⟨W5, rfl⟩ : ∃ W5, W5 = wr := ⟨_, rfl⟩
                go_wp2_with fail
                go_loopw [8, 16] (fun o i wr => ∃ j : Nat, j ≤ n - 1 - x ∧ i = .int .i64 ((x : Int) + 1 + (j : Int)) ∧ Below w2.heap.size w2 wr ∧ OwnR wr w2.heap.size o (M2 ++ mdR n F l x j) ∧ ∃ a n c, o = .slice a n c) (fun _ i _ => n - (intOf i).toNat)
                case atStart => exact ⟨0, Nat.zero_le _, by simp, HB.out, by simpa [mdR] using HOV.out, _, _, _, rfl⟩
                case round =>
                  obtain ⟨j, hj, rfl, hB, hO, a6, n6, c6, rfl⟩ := hrel
                  have HB := Lib.hid hB
                  have HOV := Lib.hid hO
                  have hz := hB.size
                  clear hB hO
                  by_cases hjl : j < n - 1 - x
                  · have hyl : x + 1 + j < n := by omega
                    have HS2 := Lib.hid (mdR_succ n F l x j)
                    have hrl := mdR_len n F l x j
                    obtain ⟨b, off, bx, ox, cx, e1, hlt, hltx, p1, p2⟩ := HAT.out wr (HBW.out.trans (HB.out.mono (by omega))) x (x + 1 + j) hxl hyl
                    have hg := HRG.out x (x + 1 + j) hxl hyl
                    obtain ⟨y, hy⟩ : ∃ y, y = x + 1 + j := ⟨_, rfl⟩
                    rw [← hy] at p2 hg hyl
                    have hyi : (x : Int) + 1 + (j : Int) = (y : Int) := by omega
                    obtain ⟨d, hd⟩ : ∃ d, d = at2 F x y := ⟨_, rfl⟩
                    obtain ⟨t, ht⟩ : ∃ t, t = blk3 (P + (x : Int)) (P + (y : Int)) (Q + d) := ⟨_, rfl⟩
                    have HTB := Lib.hid (show slB n F l x (x + 1 + j) = t by unfold slB; rw [← hy, ← hd, HLV.out, HLV.out, HLW.out, ht])
                    rw [← hd] at p2 hg
                    have HT := Lib.hid ht
                    obtain ⟨M3, hM3⟩ : ∃ M3, M3 = M2 ++ mdR n F l x j := ⟨_, rfl⟩
                    rw [← hM3] at HOV
                    have hM3l : M3.length ≤ 100 := by rw [hM3, List.length_append]; omega
                    have HM3 := Lib.hid hM3
                    have HYI := Lib.hid hyi
                    have g0 : (0 : Int) ≤ (x : Int) := by omega
                    have g1 : (x : Int) < (n : Int) := by omega
                    have g2 : (0 : Int) ≤ (y : Int) := by omega
                    have g3 : (y : Int) < (n : Int) := by omega
                    have hj2 : y + 1 = x + 1 + (j + 1) := by omega
                    clear hd ht hM3 hrl hy
                    subst e1
                    rw [hyi]
                    clear hyi
                    go_wp2_with fail
                    refine (l01Block_any (P + (x : Int)) (P + (y : Int)) (Q + d) _ (by omega) (by omega) (by omega) (by omega) (by omega) (by omega)).mono ?_
                    rintro e w4 ⟨rfl, hb4⟩
                    have hz4 := hb4.size
                    have HB4 := Lib.hid hb4
                    have HOX := Lib.hid (HOV.out.below hb4 (Nat.le_refl _))
                    rw [← HT.out]
                    obtain ⟨ta, tb, tc⟩ := t
                    unfold bv
                    dsimp only
                    clear hb4
                    go_wp2_with (at_builtin; refine wpList_append_blk rfl _ _ rfl w2.heap.size _ M3 rfl (HOX.out.below ((Below.refl _ _).alloc (Nat.le_refl _) _) (Nat.le_refl _)) _ _ ⟨ta, tb, tc⟩ rfl (by simp [go_sem]) (by simp [go_sem]) (by simp [go_sem]) (by omega) (by simp; omega) ?_; intro g' cap' w5 hO5 hg5)
                    have hrow := HOX.out.row
                    have hgo : w4.grownBy w5 (Value.slice a6 n6 c6).ownBlock := ⟨hg5.os, hg5.tape, hg5.output, by have := hg5.size; simp at this; omega, fun i hi hne => by
                      rw [hg5.block i (by simp; omega) hne, Below.heap_alloc _ _ _ hi]⟩
                    clear hg5
                    go_roundw
                    case rel => exact ⟨j + 1, by omega, by congr 1; omega, (HB.out.trans (HB4.out.mono hz)).grown hgo (by omega) (fun j e => hrow j e), by rw [HS2.out, HTB.out, ← List.append_assoc, ← HM3.out]; exact hO5, _, _, _, rfl⟩
                    case measure => simp [intOf]; omega
                  · have e : j = n - 1 - x := by omega
                    have hyi : (n : Int) ≤ (x : Int) + 1 + (j : Int) := by omega
                    have hjb : (j : Int) ≤ 5 := by omega
                    obtain ⟨M3, hM3⟩ : ∃ M3, M3 = M2 ++ mdR n F l x j := ⟨_, rfl⟩
                    rw [← hM3] at HOV
                    have hM3l : M3.length ≤ 100 := by rw [hM3, List.length_append, mdR_len]; omega
                    have HM3 := Lib.hid (show M1 ++ mdV n F l true (x + 1) = M3 ++ mdT n l true x by rw [HS.out, ← List.append_assoc, ← List.append_assoc, ← HM2.out, hM3, e])
                    clear hM3 e hjl hj
                    have HT0 := Lib.hid (show mdT n l true x = [] by simp [mdT])
                    go_wp2_with fail
                    go_roundw
                    case rel => exact ⟨x + 1, by omega, by go_num, HB.out, by rw [HM3.out, HT0.out, List.append_nil]; exact HOV.out, _, _, _, rfl⟩
                    case measure => simp [intOf]; omega
              · have e : x = n := by omega
                have HS := Lib.hid (mdL_succ n F true l)
                have HX := Lib.hid e
                have dx3 : (n : Int) ≤ (x : Int) := by omega
                clear e hxl hx
                go_wp2_with fail
                go_roundw
                case rel => exact ⟨l + 1, by omega, by go_num, HB.out, by rw [HS.out, ← List.append_assoc, ← HM1.out]; have := HOV.out; rwa [HX.out] at this, _, _, _, rfl⟩
                case measure => simp [intOf]; omega
          · have e : l = 3 := by omega
            subst e
            rw [HU.out] at HOV
            have hL := HLEN.out
            obtain ⟨M, hM⟩ : ∃ M, M = upL n n ++ mdL n F true 3 := ⟨_, rfl⟩
            rw [← hM] at HOV hL
            have HMD := Lib.hid hM
            have HLM := Lib.hid (l01Made_any (3 * (n : Int)) _ M wr (HOV.out.sx) (by omega))
            have e0 := (HB.out.cell (p := ⟨w.heap.size, 0, none⟩) hlt2).trans HE.out.1
            have e1 := (HB.out.cell (p := ⟨w.heap.size, 1, none⟩) hlt2).trans HE.out.2.1
            have e2 := (HB.out.frozen (p := ⟨w.heap.size, 0, none⟩) hlt2).trans HE.out.2.2.1
            have e3 := (HB.out.frozen (p := ⟨w.heap.size, 1, none⟩) hlt2).trans HE.out.2.2.2
            clear hM hL
            go_wp2_with fail
            refine HLM.out.mono ?_
            rintro e w6 ⟨u6, rfl, hr6, hb6⟩
            obtain ⟨a6, c6, hu6⟩ := hr6.slice
            subst hu6
            have hz6 := hb6.size
            have y0 := (hb6.cell (p := ⟨w.heap.size, 0, none⟩) (by simp; omega)).trans e0
            have y1 := (hb6.cell (p := ⟨w.heap.size, 1, none⟩) (by simp; omega)).trans e1
            have y2 := (hb6.frozen (p := ⟨w.heap.size, 0, none⟩) (by simp; omega)).trans e2
            have y3 := (hb6.frozen (p := ⟨w.heap.size, 1, none⟩) (by simp; omega)).trans e3
            have hB6 := (HBW.out.trans (HB.out.mono (by omega))).trans (hb6.mono (by omega))
            clear e0 e1 e2 e3 hb6
            go_wp2
            have hfin := (hr6.kept (gb_set2 w6 w.heap.size (.int .i64 (3 * (n : Int))) (.slice a6 (sortB M).length c6)) (fun r e => by cases e; exact .inl (by omega))).wide (lo' := w.heap.size) (by omega) (gb_set2 w6 w.heap.size (.int .i64 (3 * (n : Int))) (.slice a6 (sortB M).length c6)).size
            exact bodyPost_ret (v := .tuple #[.agg #[.int .i64 (3 * (n : Int)), .slice a6 (sortB M).length c6], .int .i64 0]) (by simp [results, Try.results25, go_sem, *]) rfl ⟨_, rfl, by rw [← HMD.out]; exact hfin, below_set2 hB6 (Nat.le_refl _) _ _⟩
end Go.Proofs.Ytlhiokcdjnmfmaa

namespace Go.Proofs.Ytlhiokcdjnmfmaa
open Go.RowKit
theorem wf_of {n : Int} (h0 : 0 ≤ n) (h1 : n ≤ 1000) : WF n := by
  have : n = wrap64 n := by unfold wrap64; omega
  unfold WF
  rw [this]
  exact wrap64_wf _
theorem dblF_len (v : Int) (bs : List Blk) : (dblF v bs).2.1.length ≤ 1100000 := by
  unfold dblF
  split
  · rename_i hi
    obtain ⟨h3, h15, hl⟩ := sys_size hi
    split
    · split
      · show (sortB (dblL v bs)).length ≤ _
        rw [sortB_length, dblL_len]
        omega
      · simp
    · simp
  · simp
theorem dblF_wf (v : Int) (bs : List Blk) : ∀ x ∈ (dblF v bs).2.1, WFB x := by
  unfold dblF
  split
  · rename_i hi
    obtain ⟨h3, h15, hl⟩ := sys_size hi
    split
    · split
      · intro x hx
        obtain ⟨h1, h2, h3⟩ := dblL_mem (by omega) h15 (sys_good hi) x (sortB_mem.1 hx)
        exact ⟨wf_of h1.1 h1.2, wf_of h2.1 h2.2, wf_of h3.1 h3.2⟩
      · simp
    · simp
  · simp
end Go.Proofs.Ytlhiokcdjnmfmaa

namespace Go.Proofs.Ytlhiokcdjnmfmaa
theorem thrF_len (n : Nat) (F : Nat → List Int) : (thrF n F).2.1.length ≤ 200 := by
  unfold thrF
  split
  · rename_i h
    split
    · rw [show (((if diaB n F n = true then 3 * (n : Int) else 3 * (n : Int) + 1), sortB (thrL n F), (0 : Int)) : Int × List Blk × Int).2.1 = sortB (thrL n F) from rfl, sortB_length]
      exact thrL_len F (sq_range h).2.1
    · simp
  · simp
def smallB (x : Blk) : Prop := (0 ≤ x.a ∧ x.a ≤ 1000) ∧ (0 ≤ x.b ∧ x.b ≤ 1000) ∧ (0 ≤ x.c ∧ x.c ≤ 1000)
theorem blk3_small {a b c : Int} (ha : 0 ≤ a ∧ a ≤ 1000) (hb : 0 ≤ b ∧ b ≤ 1000) (hc : 0 ≤ c ∧ c ≤ 1000) : smallB (blk3 a b c) := by
  unfold smallB blk3
  dsimp only
  omega
theorem lv_small {n i : Nat} {z : Int} (hn : n ≤ 5) (h0 : 0 ≤ z) (h1 : z ≤ 100) : 0 ≤ lv n i z ∧ lv n i z ≤ 1000 := by
  have := lv_bound (i := i) hn h0 h1
  omega
theorem thrL_small {n : Nat} {F : Nat → List Int} (h : sqB n F = true) : ∀ x ∈ thrL n F, smallB x := by
  obtain ⟨h2, h5, _, hr⟩ := sq_range h
  have hu : ∀ k, k ≤ 5 → ∀ x ∈ upL n k, smallB x := fun k hk x hx => by
    obtain ⟨j, hj, rfl⟩ := List.mem_map.1 hx
    have hj := List.mem_range.1 hj
    exact ⟨lv_small h5 (by omega) (by omega), lv_small h5 (by omega) (by omega), lv_small h5 (by omega) (by omega)⟩
  have ht : ∀ x ∈ tipL n (n / 2), smallB x := fun x hx => by
    obtain ⟨j, hj, hx⟩ := List.mem_flatMap.1 hx
    have hj := List.mem_range.1 hj
    obtain ⟨i, _, rfl⟩ := List.mem_map.1 hx
    exact blk3_small (by omega) (lv_small h5 (by omega) (by omega)) (lv_small h5 (by omega) (by omega))
  have hs : ∀ x ∈ slL n F 3, smallB x := fun x hx => by
    obtain ⟨i, _, hx⟩ := List.mem_flatMap.1 hx
    obtain ⟨y, hy, hx⟩ := List.mem_flatMap.1 hx
    obtain ⟨u, hu, rfl⟩ := List.mem_map.1 hx
    have hy := List.mem_range.1 hy
    have hu := List.mem_range.1 hu
    have := hr u y (by omega) hy
    exact blk3_small (lv_small h5 (by omega) (by omega)) (lv_small h5 (by omega) (by omega)) (lv_small h5 (by omega) (by omega))
  unfold thrL
  split
  · intro x hx
    rcases List.mem_append.1 hx with hx | hx
    · exact hu n h5 x hx
    · exact hs x hx
  · intro x hx
    rcases List.mem_append.1 hx with hx | hx
    · rcases List.mem_append.1 hx with hx | hx
      · exact hu _ (by omega) x hx
      · exact ht x hx
    · exact hs x hx
theorem wf_1000 {a : Int} (h0 : 0 ≤ a) (h1 : a ≤ 1000) : WF a := by
  have : a = Go.RowKit.wrap64 a := by unfold Go.RowKit.wrap64; omega
  unfold WF
  rw [this]
  exact Go.RowKit.wrap64_wf _
theorem thrF_wf (n : Nat) (F : Nat → List Int) : ∀ x ∈ (thrF n F).2.1, WFB x := by
  unfold thrF
  split
  · rename_i h
    split
    · intro x hx
      have hx : x ∈ sortB (thrL n F) := hx
      rw [sortB_mem] at hx
      obtain ⟨a, b, c⟩ := thrL_small h x hx
      exact ⟨wf_1000 a.1 a.2, wf_1000 b.1 b.2, wf_1000 c.1 c.2⟩
    · simp
  · simp
end Go.Proofs.Ytlhiokcdjnmfmaa

namespace Go.Proofs.Ytlhiokcdjnmfmaa
open Go.RowKit Go.Maps
/-- The two boxes of the arguments; what was there before the call is as it was. -/
structure St2 (w : World) (v u : Int) (s t : Value) (W : World) : Prop where
  below : Below w.heap.size w W
  big : w.heap.size + 1 < W.heap.size
  x0 : W.cell? ⟨w.heap.size, 0, none⟩ = some (.int .i64 v)
  x1 : W.cell? ⟨w.heap.size, 1, none⟩ = some s
  y0 : W.cell? ⟨w.heap.size + 1, 0, none⟩ = some (.int .i64 u)
  y1 : W.cell? ⟨w.heap.size + 1, 1, none⟩ = some t
theorem St2.step {w : World} {v u : Int} {s t : Value} {W W' : World} {row : Option Nat} (h : St2 w v u s t W) (hg : W.grownBy W' row) (hr : ∀ r, row = some r → w.heap.size + 1 < r) : St2 w v u s t W' :=
  ⟨h.below.grown hg h.below.size (fun r e => by have := hr r e; omega), Nat.lt_of_lt_of_le h.big hg.size,
    hg.cell h.x0 (fun e => by have := hr _ e.symm; simp at this; omega), hg.cell h.x1 (fun e => by have := hr _ e.symm; simp at this; omega),
    hg.cell h.y0 (fun e => by have := hr _ e.symm; simp at this), hg.cell h.y1 (fun e => by have := hr _ e.symm; simp at this)⟩
theorem St2.start (w : World) (v u : Int) (s t : Value) : St2 w v u s t ((w.alloc (.cells #[.int .i64 v, s] 24)).alloc (.cells #[.int .i64 u, t] 24)) :=
  ⟨((Below.refl _ _).alloc (Nat.le_refl _) _).alloc (by simp) _, by simp, by simp [go_sem], by simp [go_sem], by simp [go_sem], by simp [go_sem]⟩
/-- A variable that holds a system. -/
structure VarB (W : World) (X : Nat) (v : Int) (s : Value) : Prop where
  lt : X < W.heap.size
  c0 : W.cell? ⟨X, 0, none⟩ = some (.int .i64 v)
  c1 : W.cell? ⟨X, 1, none⟩ = some s
theorem VarB.step {W W' : World} {X : Nat} {v : Int} {s : Value} {row : Option Nat} (h : VarB W X v s) (hg : W.grownBy W' row) (hr : row ≠ some X) : VarB W' X v s :=
  ⟨Nat.lt_of_lt_of_le h.lt hg.size, hg.cell h.c0 (fun e => hr e.symm), hg.cell h.c1 (fun e => hr e.symm)⟩
theorem VarB.new (W : World) (v : Int) (s : Value) (T : TypeId) : VarB (W.alloc (.cells #[.int .i64 v, s] T)) W.heap.size v s := ⟨by simp, by simp, by simp⟩

/-- The state of a law whose results are lists of blocks: the model's result (from i0 on, before i1), the two copies and their variables, the program's result. -/
structure CB (w : World) (v u : Int) (s t sW s8 s9 sG : Value) (X Y i0 i1 i2 i3 i4 i5 i6 : Nat) (LW L8 L9 LG : List Blk) (W : World) : Prop where
  st : St2 w v u s t W
  o0 : w.heap.size + 1 < i0
  o1 : i0 ≤ i1
  o2 : i1 ≤ i2
  oX : i2 ≤ X
  oX' : X < i3
  o4 : i3 ≤ i4
  oY : i4 ≤ Y
  oY' : Y < i5
  o6 : i5 ≤ i6
  rW : ResR W i0 i1 sW LW
  r8 : ResR W i1 i2 s8 L8
  vX : VarB W X v s8
  r9 : ResR W i3 i4 s9 L9
  vY : VarB W Y u s9
  rG : ResR W i5 i6 sG LG
section
variable {w : World} {v u : Int} {s t sW s8 s9 sG : Value} {X Y i0 i1 i2 i3 i4 i5 i6 : Nat} {LW L8 L9 LG : List Blk} {W W' : World}
theorem CB.step (h : CB w v u s t sW s8 s9 sG X Y i0 i1 i2 i3 i4 i5 i6 LW L8 L9 LG W) (hg : W.grownBy W' none) : CB w v u s t sW s8 s9 sG X Y i0 i1 i2 i3 i4 i5 i6 LW L8 L9 LG W' :=
  ⟨h.st.step hg (by simp), h.o0, h.o1, h.o2, h.oX, h.oX', h.o4, h.oY, h.oY', h.o6, h.rW.kept hg (by simp), h.r8.kept hg (by simp), h.vX.step hg (by simp), h.r9.kept hg (by simp), h.vY.step hg (by simp), h.rG.kept hg (by simp)⟩
theorem CB.mark8 (h : CB w v u s t sW s8 s9 sG X Y i0 i1 i2 i3 i4 i5 i6 LW L8 L9 LG W) {row : Option Nat} (hg : W.grownBy W' row) (hr : ∀ r, row = some r → i1 ≤ r ∧ r < i2) {L : List Blk} (hn : ResR W' i1 i2 s8 L) :
    CB w v u s t sW s8 s9 sG X Y i0 i1 i2 i3 i4 i5 i6 LW L L9 LG W' := by
  obtain ⟨st, o0, o1, o2, oX, oX', o4, oY, oY', o6, rW, r8, vX, r9, vY, rG⟩ := h
  exact ⟨st.step hg (fun r e => by have := hr r e; omega), o0, o1, o2, oX, oX', o4, oY, oY', o6, rW.kept hg (fun r e => by have := hr r e; omega), hn, vX.step hg (fun e => by have := hr _ e; omega), r9.kept hg (fun r e => by have := hr r e; omega), vY.step hg (fun e => by have := hr _ e; omega), rG.kept hg (fun r e => by have := hr r e; omega)⟩
theorem CB.mark9 (h : CB w v u s t sW s8 s9 sG X Y i0 i1 i2 i3 i4 i5 i6 LW L8 L9 LG W) {row : Option Nat} (hg : W.grownBy W' row) (hr : ∀ r, row = some r → i3 ≤ r ∧ r < i4) {L : List Blk} (hn : ResR W' i3 i4 s9 L) :
    CB w v u s t sW s8 s9 sG X Y i0 i1 i2 i3 i4 i5 i6 LW L8 L LG W' := by
  obtain ⟨st, o0, o1, o2, oX, oX', o4, oY, oY', o6, rW, r8, vX, r9, vY, rG⟩ := h
  exact ⟨st.step hg (fun r e => by have := hr r e; omega), o0, o1, o2, oX, oX', o4, oY, oY', o6, rW.kept hg (fun r e => by have := hr r e; omega), r8.kept hg (fun r e => by have := hr r e; omega), vX.step hg (fun e => by have := hr _ e; omega), hn, vY.step hg (fun e => by have := hr _ e; omega), rG.kept hg (fun r e => by have := hr r e; omega)⟩
theorem CB.markG (h : CB w v u s t sW s8 s9 sG X Y i0 i1 i2 i3 i4 i5 i6 LW L8 L9 LG W) {row : Option Nat} (hg : W.grownBy W' row) (hr : ∀ r, row = some r → i5 ≤ r ∧ r < i6) {L : List Blk} (hn : ResR W' i5 i6 sG L) :
    CB w v u s t sW s8 s9 sG X Y i0 i1 i2 i3 i4 i5 i6 LW L8 L9 L W' := by
  obtain ⟨st, o0, o1, o2, oX, oX', o4, oY, oY', o6, rW, r8, vX, r9, vY, rG⟩ := h
  exact ⟨st.step hg (fun r e => by have := hr r e; omega), o0, o1, o2, oX, oX', o4, oY, oY', o6, rW.kept hg (fun r e => by have := hr r e; omega), r8.kept hg (fun r e => by have := hr r e; omega), vX.step hg (fun e => by have := hr _ e; omega), r9.kept hg (fun r e => by have := hr r e; omega), vY.step hg (fun e => by have := hr _ e; omega), hn⟩
end
end Go.Proofs.Ytlhiokcdjnmfmaa

namespace Go.Proofs.Ytlhiokcdjnmfmaa
open Go.RowKit Go.Maps
theorem ResI.slice {w : World} {lo hi : Nat} {s : Value} {zs : List Int} (h : ResI w lo hi s zs) : ∃ a c, s = .slice a zs.length c := by
  rcases h with ⟨rfl, a, c, rfl⟩ | ⟨g, cap, rfl, _⟩ <;> exact ⟨_, _, rfl⟩
theorem ResI.wide {w : World} {lo hi lo' hi' : Nat} {s : Value} {zs : List Int} (h : ResI w lo hi s zs) (h1 : lo' ≤ lo) (h2 : hi ≤ hi') : ResI w lo' hi' s zs := by
  rcases h with h | ⟨g, cap, rfl, h3, h4, ho⟩
  · exact .inl h
  · exact .inr ⟨g, cap, rfl, by omega, by omega, ho⟩
structure St1 (w : World) (v : Int) (s : Value) (W : World) : Prop where
  below : Below w.heap.size w W
  big : w.heap.size < W.heap.size
  x0 : W.cell? ⟨w.heap.size, 0, none⟩ = some (.int .i64 v)
  x1 : W.cell? ⟨w.heap.size, 1, none⟩ = some s
theorem St1.step {w : World} {v : Int} {s : Value} {W W' : World} {row : Option Nat} (h : St1 w v s W) (hg : W.grownBy W' row) (hr : ∀ r, row = some r → w.heap.size < r) : St1 w v s W' :=
  ⟨h.below.grown hg h.below.size (fun r e => by have := hr r e; omega), Nat.lt_of_lt_of_le h.big hg.size,
    hg.cell h.x0 (fun e => by have := hr _ e.symm; simp at this), hg.cell h.x1 (fun e => by have := hr _ e.symm; simp at this)⟩
theorem St1.start (w : World) (v : Int) (s : Value) : St1 w v s (w.alloc (.cells #[.int .i64 v, s] 24)) :=
  ⟨(Below.refl _ _).alloc (Nat.le_refl _) _, by simp, by simp [go_sem], by simp [go_sem]⟩
structure CI (w : World) (v : Int) (s sW s8 sG : Value) (X i0 i1 i2 i5 i6 : Nat) (LW : List Int) (L8 : List Blk) (LG : List Int) (W : World) : Prop where
  st : St1 w v s W
  o0 : w.heap.size < i0
  o1 : i0 ≤ i1
  o2 : i1 ≤ i2
  oX : i2 ≤ X
  oX' : X < i5
  o6 : i5 ≤ i6
  rW : ResI W i0 i1 sW LW
  r8 : ResR W i1 i2 s8 L8
  vX : VarB W X v s8
  rG : ResI W i5 i6 sG LG
section
variable {w : World} {v : Int} {s sW s8 sG : Value} {X i0 i1 i2 i5 i6 : Nat} {LW LG : List Int} {L8 : List Blk} {W W' : World}
theorem CI.step (h : CI w v s sW s8 sG X i0 i1 i2 i5 i6 LW L8 LG W) (hg : W.grownBy W' none) : CI w v s sW s8 sG X i0 i1 i2 i5 i6 LW L8 LG W' :=
  ⟨h.st.step hg (by simp), h.o0, h.o1, h.o2, h.oX, h.oX', h.o6, h.rW.kept hg (by simp), h.r8.kept hg (by simp), h.vX.step hg (by simp), h.rG.kept hg (by simp)⟩
theorem CI.mark8 (h : CI w v s sW s8 sG X i0 i1 i2 i5 i6 LW L8 LG W) {row : Option Nat} (hg : W.grownBy W' row) (hr : ∀ r, row = some r → i1 ≤ r ∧ r < i2) {L : List Blk} (hn : ResR W' i1 i2 s8 L) :
    CI w v s sW s8 sG X i0 i1 i2 i5 i6 LW L LG W' := by
  obtain ⟨st, o0, o1, o2, oX, oX', o6, rW, r8, vX, rG⟩ := h
  exact ⟨st.step hg (fun r e => by have := hr r e; omega), o0, o1, o2, oX, oX', o6, rW.kept hg (fun r e => by have := hr r e; omega), hn, vX.step hg (fun e => by have := hr _ e; omega), rG.kept hg (fun r e => by have := hr r e; omega)⟩
theorem CI.markG (h : CI w v s sW s8 sG X i0 i1 i2 i5 i6 LW L8 LG W) {row : Option Nat} (hg : W.grownBy W' row) (hr : ∀ r, row = some r → i5 ≤ r ∧ r < i6) {L : List Int} (hn : ResI W' i5 i6 sG L) :
    CI w v s sW s8 sG X i0 i1 i2 i5 i6 LW L8 L W' := by
  obtain ⟨st, o0, o1, o2, oX, oX', o6, rW, r8, vX, rG⟩ := h
  exact ⟨st.step hg (fun r e => by have := hr r e; omega), o0, o1, o2, oX, oX', o6, rW.kept hg (fun r e => by have := hr r e; omega), r8.kept hg (fun r e => by have := hr r e; omega), vX.step hg (fun e => by have := hr _ e; omega), hn⟩
end
theorem gb_drew1 (w : World) : w.grownBy w.drew none := ⟨rfl, rfl, rfl, Nat.le_refl _, fun _ _ _ => rfl⟩
theorem gb_alloc1 (w : World) (o : Obj) : w.grownBy (w.alloc o) none := World.grownBy_alloc w o none
end Go.Proofs.Ytlhiokcdjnmfmaa

namespace Go.Proofs.Ytlhiokcdjnmfmaa
open Go.RowKit Go.Maps
theorem infoRow : (Try.prog.info? 26).map (fun i => (i.zero, i.size, i.bytes)) = some (some (.slice none 0 0), 1, 24) := by kernel_rfl
def rowV (gs caps : Nat → Nat) (F : Nat → List Int) (k : Nat) : Value := .slice (some ⟨gs k, 0, none⟩) (F k).length (caps k)
/-- The value owns a slice of n rows, each in a block of its own. -/
structure AccS (w : World) (base : Nat) (u : Value) (n : Nat) (gs caps : Nat → Nat) (F : Nat → List Int) : Prop where
  own : w.ownsRow base 26 1 u n ((List.range n).map (rowV gs caps F))
  row : ∀ k, k < n → OwnAtI w (gs k) (F k)
  ne : ∀ k, k < n → u.ownBlock ≠ some (gs k)
  inc : ∀ j k, j < k → k < n → gs j < gs k
  low : ∀ k, k < n → base ≤ gs k
theorem ownsRow_lt {w : World} {base : Nat} {e : TypeId} {size n : Nat} {u : Value} {xs : List Value} (h : w.ownsRow base e size u n xs) : ∀ r, u.ownBlock = some r → base ≤ r ∧ r < w.heap.size := fun r hr => by
  rcases h.2 with ⟨rfl, _⟩ | ⟨g, cap, cur, rfl, hb, hcur, _⟩
  · simp [Value.ownBlock] at hr
  · obtain rfl : g = r := by simpa [Value.ownBlock] using hr
    exact ⟨hb, (Array.getElem?_eq_some_iff.1 hcur).1⟩
theorem ownsRow_kept {w w' : World} {base : Nat} {e : TypeId} {size n : Nat} {u : Value} {xs : List Value} {row : Option Nat} (h : w.ownsRow base e size u n xs) (hg : w.grownBy w' row) (hr : row = none ∨ u.ownBlock ≠ row) : w'.ownsRow base e size u n xs := by
  obtain ⟨hl, h | ⟨g, cap, cur, rfl, hb, hcur, hrest⟩⟩ := h
  · exact ⟨hl, .inl h⟩
  · exact ⟨hl, .inr ⟨g, cap, cur, rfl, hb, (hg.block g (Array.getElem?_eq_some_iff.1 hcur).1 (fun e => by
      rcases hr with rfl | hr
      · cases e
      · exact hr (by rw [← e]; rfl))).trans hcur, hrest⟩⟩
section
variable {w w' : World} {base : Nat} {u : Value} {n : Nat} {gs caps : Nat → Nat} {F : Nat → List Int}
theorem AccS.kept (h : AccS w base u n gs caps F) {row : Option Nat} (hg : w.grownBy w' row) (hu : row = none ∨ u.ownBlock ≠ row) (hr : ∀ k, k < n → some (gs k) ≠ row) : AccS w' base u n gs caps F :=
  ⟨ownsRow_kept h.own hg hu, fun k hk => (h.row k hk).kept hg (hr k hk), h.ne, h.inc, h.low⟩
theorem AccS.below (h : AccS w base u n gs caps F) {B : Nat} (hb : Below B w w') (hB : w.heap.size ≤ B) : AccS w' base u n gs caps F :=
  h.kept (only_of_below (hb.mono hB) none) (.inl rfl) (by simp)
theorem AccS.nil (w : World) (base : Nat) (gs caps : Nat → Nat) (F : Nat → List Int) : AccS w base (.slice none 0 0) 0 gs caps F :=
  ⟨⟨rfl, .inl ⟨rfl, rfl⟩⟩, fun k hk => by omega, fun k hk => by omega, fun j k _ hk => by omega, fun k hk => by omega⟩
theorem AccS.ssr (h : AccS w base u n gs caps F) (hn : 0 < n) : ∃ G cap, u = .slice (some ⟨G, 0, none⟩) n cap ∧ base ≤ G ∧ SSR w base G gs caps n F := by
  obtain ⟨⟨hl, h1⟩, h2, h3, h4, h5⟩ := h
  rcases h1 with ⟨_, h0⟩ | ⟨g, cap, cur, rfl, hb, hcur, hn', hc, hsz, hx⟩
  · omega
  · refine ⟨g, cap, rfl, hb, ⟨fun k hk => ?_, h2, fun k hk e => h3 k hk (by rw [e]; rfl), h4, h5, (Array.getElem?_eq_some_iff.1 hcur).1⟩⟩
    have e : ((List.range n).map (rowV gs caps F))[k]? = some (rowV gs caps F k) := by simp [hk]
    rw [← hx, List.getElem?_take_of_lt (by omega)] at e
    simp [World.cell?, hcur]
    simpa [rowV] using e
end
theorem map_congr' {α β : Type} {f g : α → β} {l : List α} (h : ∀ x ∈ l, f x = g x) : l.map f = l.map g := List.map_congr_left h
theorem wpList_append_row {w : World} {ops : Array Oper} {rest : List Oper} {o : Oper} {a : Act} {Q : Exit → Act → World → Prop} (hgd : o.guard = none) (s x : Operand)
    (ho : o.op = .call { callee := .builtin .append, args := #[s, x], argTypes := #[38, 38] })
    (base : Nat) (v : Value) (n : Nat) (gs caps : Nat → Nat) (F : Nat → List Int) (hs : a.eval s = v) (hown : AccS w base v n gs caps F) (b0 c : Nat) (hx : a.eval x = .slice (some ⟨b0, 0, none⟩) 1 c) (g cg : Nat)
    (c1 : w.cell? ⟨b0, 0, none⟩ = some (.slice (some ⟨g, 0, none⟩) (F n).length cg)) (hrow : OwnAtI w g (F n)) (hgt : ∀ k, k < n → gs k < g) (hng : v.ownBlock ≠ some g) (hbg : base ≤ g) (hl : n ≤ 1100000) (hbase : base ≤ w.heap.size)
    (h : ∀ (G cap : Nat) (w' : World) (gs' caps' : Nat → Nat), AccS w' base (.slice (some ⟨G, 0, none⟩) (n + 1) cap) (n + 1) gs' caps' F → w.grownBy w' v.ownBlock → wpList Try.prog ops Q rest (a.put o.dst (.slice (some ⟨G, 0, none⟩) (n + 1) cap)) w') : wpList Try.prog ops Q (o :: rest) a w := by
  obtain ⟨i0, hi, hz0, hz1, hz2⟩ := info_parts infoRow
  refine wpList_append_own_at w hgd s x 38 ho base 26 i0 _ 1 24 Try.underlying38 hi hz0 hz1 hz2 rfl (by decide) v n _ hs hown.own ⟨b0, 0, none⟩ 1 c [.slice (some ⟨g, 0, none⟩) (F n).length cg] hx rfl ?_ ?_ (by unfold maxLen; omega) (by omega) hbase ?_
  · intro j u hj
    rw [addr_at, Nat.zero_add]
    match j, hj with
    | 0, hj => simp at hj; rw [← hj]; exact c1
    | j + 1, hj => simp at hj
  · intro u hu
    simp at hu
    rw [hu]
    rfl
  · intro v' w' hown' hg _ hob
    obtain ⟨G, cap, rfl⟩ := row_some hown'
    have hGg : G ≠ g := by
      rintro rfl
      rcases hob with e | e
      · exact hng (by rw [← e]; rfl)
      · simp [Value.ownBlock] at e
        have := hrow.lt
        omega
    refine h G cap w' (fun k => if k = n then g else gs k) (fun k => if k = n then cg else caps k) ⟨?_, fun k hk => ?_, fun k hk => ?_, fun j k hjk hk => ?_, fun k hk => ?_⟩ hg
    · rw [List.range_succ, List.map_append, List.map_singleton]
      have e1 : (List.range n).map (rowV (fun k => if k = n then g else gs k) (fun k => if k = n then cg else caps k) F) = (List.range n).map (rowV gs caps F) := map_congr' fun k hk => by
        have : k ≠ n := by have := List.mem_range.1 hk; omega
        simp [rowV, this]
      rw [e1]
      simpa [rowV] using hown'
    · split
      · subst k; exact hrow.kept hg (fun e => hng e.symm)
      · exact (hown.row k (by omega)).kept hg (fun e => hown.ne k (by omega) e.symm)
    · split
      · simpa [Value.ownBlock] using hGg
      · intro e
        have e' : G = gs k := by simpa [Value.ownBlock] using e
        rcases hob with e2 | e2
        · exact hown.ne k (by omega) (by rw [← e2, e])
        · simp [Value.ownBlock] at e2
          have := (hown.row k (by omega)).lt
          omega
    · rw [if_neg (by omega)]
      split
      · exact hgt j (by omega)
      · exact hown.inc j k hjk (by omega)
    · split
      · exact hbg
      · exact hown.low k (by omega)
/-- A slice of rows and a code. -/
def RSS (n : Nat) (F : Nat → List Int) (κ : Int) (w : World) (e : Ending) (w' : World) : Prop :=
  ∃ u G cap gs caps, e = .returned (.tuple #[u, .int .i64 κ]) ∧ Below w.heap.size w w' ∧ u = .slice (some ⟨G, 0, none⟩) n cap ∧ w.heap.size ≤ G ∧ SSR w' w.heap.size G gs caps n F
def hf (n s : Int) : Int := if (s % n) % 2 = 0 then (s % n) / 2 else if n % 2 = 0 then (s % n + n - 1) / 2 else (s % n + n) / 2
def rowP (n k : Nat) (j : Nat) : List Int := (List.range j).map fun (y : Nat) => hf n ((k : Int) + (y : Int))
def rowF (n k : Nat) : List Int := rowP n k n
theorem rowP_len (n k j : Nat) : (rowP n k j).length = j := by simp [rowP]
theorem rowP_succ (n k j : Nat) : rowP n k (j + 1) = rowP n k j ++ [hf n ((k : Int) + (j : Int))] := by simp [rowP, List.range_succ]
theorem rowP_next (n k j : Nat) (h : j < n) : (rowP n k j ++ List.replicate (n - j) 0).set j (hf n ((k : Int) + (j : Int))) = rowP n k (j + 1) ++ List.replicate (n - (j + 1)) 0 := by
  rw [rowP_succ, show n - j = (n - (j + 1)) + 1 by omega, List.replicate_succ, List.set_append_right _ _ (by rw [rowP_len]; omega), rowP_len, Nat.sub_self, List.set_cons_zero, List.append_assoc]
  rfl
theorem made_ints (w : World) (n : Nat) (T : TypeId) : OwnAtI (w.alloc (.cells (madeCells #[.int .i64 0] n) T)) w.heap.size (List.replicate n 0) := by
  refine ⟨by simp, fun k hk => ?_, fun o => by simp⟩
  rw [List.length_replicate] at hk
  rw [World.cell?_alloc_at _ _ _ _ rfl]
  simp [madeCells, hk, Nat.mod_one]
end Go.Proofs.Ytlhiokcdjnmfmaa

namespace Go.Proofs.Ytlhiokcdjnmfmaa
open Go.RowKit Go.Maps
end Go.Proofs.Ytlhiokcdjnmfmaa


/- The model's l09Rank. IsWord of the model. IsWord of the model. How the laws' arguments are read. How the laws' other arguments are read: slices of integers, slices of blocks, a block, rows. What a law over one system whose result is a system knows of the memory between two of its steps. The law FnExactIsWord returns true. The dump's head word by word, cheaply: what every row asks of it. -/
import Derived.Test.YtahgialnhomefaaJ17
import Derived.StillTailTactics
import Derived.BigQuiet
import Derived.Deep.RegionHeld3
import Derived.Test.YtahgialnhomefaaRows
import Derived.ProofKit
import Derived.OpenShut
import Derived.Deep.Slices
import Derived.Lib.SmallJoins
import Derived.ChangeOld
import Derived.Deep.RegionWith
import Derived.Deep.DeepCutAuto
namespace Go.Proofs.Ytahgialnhomefaa
open Go.RowKit Go.Maps
theorem TabL.cel {W : World} {lo G m c n : Nat} {us : List Value} {Rs : List (List Int)} (h : TabL W lo (.slice (some ⟨G, 0, none⟩) m c) us Rs) {i : Nat} (hi : i < Rs.length) (hn : (Rs[i]?.getD []).length = n) (h0 : 0 < n) (h1 : n ≤ 1000) :
    ∃ g cap, W.cell? ⟨G, i, none⟩ = some (.slice (some ⟨g, 0, none⟩) n cap) ∧ W.frozen? ⟨G, i, none⟩ = false ∧ us[i]? = some (.slice (some ⟨g, 0, none⟩) n cap) ∧ (∀ j, j < n → W.cell? ⟨g, j, none⟩ = some (.int .i64 (vec (Rs[i]?.getD []) j)) ∧ W.frozen? ⟨g, j, none⟩ = false) ∧ lo ≤ g := by
  obtain ⟨G', c', g, cap, e, _, a1, a5, a2, a3, a4⟩ := h.at_ hi (by omega) (by omega)
  simp at e
  obtain ⟨rfl, _⟩ := e
  rw [hn] at a1 a2
  refine ⟨g, cap, a1, a5, a2, fun j hj => ⟨?_, a3.free j⟩, a4⟩
  have := a3.at_ j (by omega)
  rw [Nat.zero_add] at this
  exact this
theorem TabL.hd {W : World} {lo G m c n : Nat} {us : List Value} {Rs : List (List Int)} (h : TabL W lo (.slice (some ⟨G, 0, none⟩) m c) us Rs) {i g cap : Nat} (hi : i < Rs.length) (hn : (Rs[i]?.getD []).length = n) (h0 : 0 < n) (h1 : n ≤ 1000) (hx : us[i]? = some (.slice (some ⟨g, 0, none⟩) n cap)) :
    W.cell? ⟨G, i, none⟩ = some (.slice (some ⟨g, 0, none⟩) n cap) ∧ (∀ j, j < n → W.cell? ⟨g, j, none⟩ = some (.int .i64 (vec (Rs[i]?.getD []) j)) ∧ W.frozen? ⟨g, j, none⟩ = false) ∧ lo ≤ g := by
  obtain ⟨g', cap', a1, _, a2, a3, a4⟩ := h.cel hi hn h0 h1
  rw [hx] at a2
  simp at a2
  obtain ⟨rfl, rfl⟩ := a2
  exact ⟨a1, a3, a4⟩
theorem two_three {p x y : Int} (hp : P23 p) (x0 : 0 ≤ x) (x1 : x < p) (y0 : 0 ≤ y) (y1 : y < p) : 0 ≤ x * y ∧ x * y ≤ 4 := by
  refine ⟨Int.mul_nonneg x0 y0, ?_⟩
  have : x * y ≤ 2 * 2 := Int.mul_le_mul (by rcases hp with rfl | rfl <;> omega) (by rcases hp with rfl | rfl <;> omega) y0 (by omega)
  omega
set_option maxRecDepth 100000 in
set_option maxHeartbeats 8000000 in
theorem l09Rank_any {p : Int} (hp : P23 p) (n : Nat) (hn0 : 0 < n) (hn : n ≤ 100) (R : List (List Int)) (hR : ∀ r ∈ R, Wf p n r) (hRl : R.length ≤ 1000) (lo : Nat) (u : Value) (us0 : List Value) (w : World) (h : TabL w lo u us0 R) :
    Calls Try.prog 63 #[u, .int .i64 p] w (fun e w' => e = .returned (.int .i64 (rankM p n R : Nat)) ∧ Below lo w w') := by
  rcases Nat.eq_zero_or_pos R.length with hm0 | hm0
  · have e := List.eq_nil_of_length_eq_zero hm0
    subst e
    rw [rankM_nil]
    have hform : ∃ a c, u = .slice a 0 c := by
      have hl := h.len
      rcases h.own.2 with ⟨hv, _⟩ | ⟨g, cap, _, hv, _⟩
      · exact ⟨_, _, hv⟩
      · rw [hl] at hv; exact ⟨_, _, hv⟩
    obtain ⟨a, c, rfl⟩ := hform
    clear h hm0 hRl hR
    go_enter Try.func63, Try.ntmps63
    go_wp2_with fail
    refine wp_loop_rounds 1 ?_
    rw [rounds_succ]
    go_wp2
    go_ret
    exact ⟨rfl, Below.refl _ _⟩
  obtain ⟨m, hm⟩ : ∃ m, m = R.length := ⟨_, rfl⟩
  rw [← hm] at hm0 hRl
  have hform : ∃ G c, u = .slice (some ⟨G, 0, none⟩) m c := by
    obtain ⟨G, c, hu⟩ := h.own.form (by rw [h.len, ← hm]; exact hm0)
    rw [h.len, ← hm] at hu
    exact ⟨G, c, hu⟩
  obtain ⟨G, c0, rfl⟩ := hform
  have HM := Lib.hid hm
  have HP := Lib.hid hp
  have hp2 : 2 ≤ p := by rcases hp with rfl | rfl <;> omega
  have hp3 : p ≤ 3 := by rcases hp with rfl | rfl <;> omega
  have hpb : (p == 0) = false := by simp; omega
  have hpn : p ≠ 0 := by omega
  have HINV := Lib.hid (runM_inv hp hR)
  have HT0 := Lib.hid h
  clear h hm hp hR
  have hloG : lo ≤ G := (HT0.out.own.blkP G rfl).1
  go_enter Try.func63, Try.ntmps63
  go_wp2_with fail
  go_loopw [5, 6] (fun r i wr => ∃ (c k : Nat) (us : List Value) (S : List (List Int)), c ≤ n ∧ i = .int .i64 (c : Int) ∧ r = .int .i64 (k : Int) ∧ Below lo w wr ∧ TabL wr lo (.slice (some ⟨G, 0, none⟩) m c0) us S ∧ Hid (runM p R c = (S, k))) (fun _ i _ => n - (intOf i).toNat)
  case atStart => exact ⟨0, 0, us0, R, Nat.zero_le _, rfl, rfl, Below.refl _ _, HT0.out, Lib.hid rfl⟩
  case round =>
    obtain ⟨c, k, us, S, hc, rfl, rfl, hB, hT, HS⟩ := hrel
    have HI := HINV.out c hc
    rw [HS.out] at HI
    have hSl : S.length = m := HI.len.trans HM.out.symm
    have hkm : k ≤ m := by have := HI.le; dsimp only at this; omega
    have HWF := Lib.hid (fun i (hi : i < m) => HI.wf (S[i]?.getD []) (by rw [List.getElem?_eq_getElem (by rw [hSl]; exact hi)]; exact List.getElem_mem _))
    have HZ := Lib.hid (fun i (h1 : k ≤ i) (h2 : i < m) j hj => HI.zero i h1 (by show i < S.length; omega) j hj)
    have HB := Lib.hid hB
    have HT := Lib.hid hT
    have d0 : decide ((0 : Int) < (m : Int)) = true := by simp; omega
    obtain ⟨z1, z2, e0, _⟩ := hT.cel (i := 0) (by omega) (HWF.out 0 hm0).1 hn0 (by omega)
    clear HI hB hT
    by_cases hcn : c < n
    · have d1 : decide ((c : Int) < (n : Int)) = true := by simp; omega
      go_wp2_with fail
      clear d0 d1 e0
      obtain ⟨V, hV⟩ : ∃ V, V = wr := ⟨_, rfl⟩
      rw [← hV] at HB HT ⊢
      clear hV
      go_loopw [7, 8] (fun b i wq => wq = V ∧ ∃ q : Nat, k ≤ q ∧ q ≤ m ∧ i = .int .i64 (q : Int) ∧ ((b = .int .i64 (-1) ∧ Hid (∀ a, k ≤ a → a < q → vec (S[a]?.getD []) c = 0)) ∨ (∃ t : Nat, q = t + 1 ∧ b = .int .i64 (t : Int) ∧ k ≤ t ∧ Hid (vec (S[t]?.getD []) c ≠ 0 ∧ ∀ a, k ≤ a → a < t → vec (S[a]?.getD []) c = 0)))) (fun b i _ => m - (intOf i).toNat)
      case atStart => exact ⟨rfl, k, Nat.le_refl _, hkm, rfl, .inl ⟨rfl, Lib.hid fun a h1 h2 => by omega⟩⟩
      case round =>
        obtain ⟨rfl, q, hkq, hqm, rfl, hb⟩ := hrel
        rcases hb with ⟨rfl, HA⟩ | ⟨t, rfl, rfl, hkt, HA⟩
        · by_cases hql : q < m
          · have d0 : decide ((q : Int) < (m : Int)) = true := by simp; omega
            obtain ⟨g, cap, e1, _, _, e2, _⟩ := HT.out.cel (i := q) (by omega) (HWF.out q hql).1 hn0 (by omega)
            have e3 := (e2 c hcn).1
            have i0 : (0 : Int) ≤ (q : Int) := by omega
            have i1 : (q : Int) < (m : Int) := by omega
            have i2 : (0 : Int) ≤ (c : Int) := by omega
            have i3 : (c : Int) < (n : Int) := by omega
            clear e2
            obtain ⟨y, hy⟩ : ∃ y, y = vec (S[q]?.getD []) c := ⟨_, rfl⟩
            rw [← hy] at e3
            have HY := Lib.hid hy
            clear hy
            by_cases hv : y = 0
            · subst hv
              go_wp2
              go_roundw
              case rel => exact ⟨trivial, q + 1, by omega, by omega, by go_num, .inl ⟨rfl, Lib.hid fun a h1 h2 => by
                by_cases e : a = q
                · subst e; exact HY.out.symm
                · exact HA.out a h1 (by omega)⟩⟩
              case measure => simp [intOf]; omega
            · have d1 : (y != 0) = true := by simpa using hv
              have HV := Lib.hid hv
              clear hv
              go_wp2
              go_roundw
              case rel => exact ⟨trivial, q + 1, by omega, by omega, by go_num, .inr ⟨q, rfl, rfl, hkq, Lib.hid ⟨by rw [← HY.out]; exact HV.out, HA.out⟩⟩⟩
              case measure => simp [intOf]; omega
          · have d0 : decide ((q : Int) < (m : Int)) = false := by simp; omega
            have HN := Lib.hid (show runM p R (c + 1) = (S, k) by
              rw [runM_succ, HS.out]
              unfold colM
              dsimp only
              rw [bestM_no fun a h1 h2 => HA.out a h1 (by omega)])
            clear HA
            go_wp2
            go_roundw
            case rel => exact ⟨c + 1, k, us, S, by omega, by go_num, rfl, HB.out, HT.out, HN⟩
            case measure => simp [intOf]; omega
        · have d0 : decide ((t : Int) < (0 : Int)) = false := by simp
          have HN := Lib.hid (show runM p R (c + 1) = (tailM p c k (S[t]?.getD []) (swpM S k t), k + 1) by
            rw [runM_succ, HS.out]
            unfold colM
            dsimp only
            rw [bestM_eq hkt (by omega) HA.out.1 HA.out.2])
          have htm : t < m := by omega
          have hkm2 : k < m := by omega
          obtain ⟨gt, ct, t1, t2, t3, _, _⟩ := HT.out.cel (i := t) (by omega) (HWF.out t htm).1 hn0 (by omega)
          obtain ⟨gk, ck, k1, k2, k3, _, _⟩ := HT.out.cel (i := k) (by omega) (HWF.out k hkm2).1 hn0 (by omega)
          obtain ⟨s1, s2⟩ := HT.out.own.setT (i := t) (x := .slice (some ⟨gk, 0, none⟩) n ck)
          obtain ⟨ux, hux⟩ : ∃ ux, (us.set t (.slice (some ⟨gk, 0, none⟩) n ck))[k]? = some ux := ⟨_, List.getElem?_eq_getElem (by rw [List.length_set, HT.out.len]; omega)⟩
          have f0 := s1.at_ hux
          have f1 := f0.1
          have f2 := f0.2.2.2.2
          clear f0
          obtain ⟨v1, v2⟩ := HT.out.swp k3 t3
          have HT2 := Lib.hid v1
          have HB2 := Lib.hid (HB.out.grown v2 (by have := (HT.out.own.blkP G rfl).2; omega) (fun r e => by cases e; exact hloG))
          have hu2 : (swpG (.slice none 0 0) us k t)[k]? = some (.slice (some ⟨gt, 0, none⟩) n ct) := by
            rw [swpG_at (by rw [HT.out.len]; omega) (by rw [HT.out.len]; omega), if_pos rfl]; exact t3
          have HWF2 := Lib.hid (fun i (hi : i < m) => (show Wf p n ((swpG [] S k t)[i]?.getD []) by
            rw [swpG_at (by omega) (by omega)]
            exact HWF.out _ (by split <;> (try split) <;> omega)))
          have HOW := Lib.hid (show (swpG [] S k t)[k]?.getD [] = S[t]?.getD [] by rw [swpG_at (by omega) (by omega), if_pos rfl])
          have HN2 := Lib.hid (show runM p R (c + 1) = (tailM p c k (S[t]?.getD []) (swpG [] S k t), k + 1) from HN.out)
          have HZO := Lib.hid (HZ.out t hkt htm)
          have HWO := Lib.hid (HWF.out t htm)
          have hl2 : (swpG [] S k t).length = m := by simp [swpG, hSl]
          have i0 : (0 : Int) ≤ (t : Int) := by omega
          have i1 : (t : Int) < (m : Int) := by omega
          have i2 : (0 : Int) ≤ (k : Int) := by omega
          have i3 : (k : Int) < (m : Int) := by omega
          clear s1 s2 hux v1 v2 t3 k3 HA HN HS HT HWF HZ HB
          go_wp2_with fail
          all_goals
            clear t1 t2 k1 k2 f1 f2 d0 i0 i1 i2 i3
            obtain ⟨W2, hW2⟩ : ∃ W2, W2 = (wr.setCell ⟨G, t, none⟩ (.slice (some ⟨gk, 0, none⟩) n ck)).setCell ⟨G, k, none⟩ (.slice (some ⟨gt, 0, none⟩) n ct) := ⟨_, rfl⟩
            rw [← hW2] at HT2 HB2 ⊢
            clear hW2
            obtain ⟨own, how⟩ : ∃ own, own = S[t]?.getD [] := ⟨_, rfl⟩
            rw [← how] at HOW HN2 HZO HWO
            obtain ⟨S2, hS2⟩ : ∃ S2, S2 = swpG [] S k t := ⟨_, rfl⟩
            rw [← hS2] at HOW HN2 HWF2 HT2 hl2
            obtain ⟨us2, hus2⟩ : ∃ us2, us2 = swpG (.slice none 0 0) us k t := ⟨_, rfl⟩
            rw [← hus2] at HT2 hu2
            clear how hS2 hus2 hSl
            go_loopw [10] (fun i wq => ∃ a : Nat, k + 1 ≤ a ∧ a ≤ m ∧ i = .int .i64 (a : Int) ∧ Below lo w wq ∧ TabL wq lo (.slice (some ⟨G, 0, none⟩) m c0) us2 (tailK p c k own S2 a)) (fun i _ => m - (intOf i).toNat)
            case atStart => exact ⟨k + 1, Nat.le_refl _, hkm2, by go_num, HB2.out, by rw [tailK_start]; exact HT2.out⟩
            case round =>
              obtain ⟨a, hka, ham, rfl, hB, hT⟩ := hrel
              have HB := Lib.hid hB
              have HT := Lib.hid hT
              clear hB hT
              by_cases hal : a < m
              · have hwa := HWF2.out a hal
                obtain ⟨r, hr⟩ : ∃ r, r = S2[a]?.getD [] := ⟨_, rfl⟩
                have HR := Lib.hid hr
                rw [← hr] at hwa
                have hra : (tailK p c k own S2 a)[a]?.getD [] = r := by rw [tailK_at (by omega), if_neg (by omega)]; exact hr.symm
                have hrk : (tailK p c k own S2 a)[k]?.getD [] = own := by rw [tailK_at (by omega), if_neg (by omega)]; exact HOW.out
                have hlt : (tailK p c k own S2 a).length = m := by rw [tailK_len]; exact hl2
                obtain ⟨ga, ca, a1, _, a3, a2, _⟩ := HT.out.cel (i := a) (n := n) (by omega) (by rw [hra]; exact hwa.1) hn0 (by omega)
                obtain ⟨_, b2, _⟩ := HT.out.hd (i := k) (n := n) (by omega) (by rw [hrk]; exact HWO.out.1) hn0 (by omega) hu2
                rw [hra] at a2
                rw [hrk] at b2
                have c1 := (a2 c hcn).1
                have c2 := (b2 c hcn).1
                have hlow := Lib.hid (show lo ≤ wr.heap.size by have := (HT.out.own.blkP G rfl).2; omega)
                have HWA := Lib.hid hwa
                obtain ⟨X, hX⟩ : ∃ X, X = vec r c := ⟨_, rfl⟩
                obtain ⟨Y, hY⟩ : ∃ Y, Y = vec own c := ⟨_, rfl⟩
                have hx := hwa.at (by omega) c
                have hy := HWO.out.at (by omega) c
                rw [← hX] at c1 hx
                rw [← hY] at c2 hy
                obtain ⟨m0, m1⟩ := two_three HP.out hx.1 hx.2 hy.1 hy.2
                have hw1 : IntKind.i64.wrap (X * Y) = X * Y := IntWalk.i64_in _ (by omega)
                have hmd : Int.tmod (X * Y) p = X * Y % p := Int.tmod_eq_emod_of_nonneg m0
                obtain ⟨t, ht⟩ : ∃ t, t = X * Y % p := ⟨_, rfl⟩
                have ht0 : 0 ≤ t := by rw [ht]; exact Int.emod_nonneg _ hpn
                have ht1 : t < p := by rw [ht]; exact Int.emod_lt_of_pos _ (by omega)
                have hwt : IntKind.i64.wrap t = t := IntWalk.i64_in _ (by omega)
                rw [← ht] at hmd
                have HCL := Lib.hid (show addL p (p - t) own r = clrM p c own r by unfold clrM; rw [← hX, ← hY, ← ht])
                have i0 : (0 : Int) ≤ (a : Int) := by omega
                have i1 : (a : Int) < (m : Int) := by omega
                have i2 : (0 : Int) ≤ (c : Int) := by omega
                have i3 : (c : Int) < (n : Int) := by omega
                have d0 : decide ((a : Int) < (m : Int)) = true := by simp; omega
                have HST := Lib.hid (show (tailK p c k own S2 a).set a (rowJ n p (p - t) own r c) = tailK p c k own S2 a by
                  refine set_self ?_
                  rw [List.getElem?_eq_getElem (by omega)]
                  congr 1
                  rw [List.getElem?_eq_getElem (by omega)] at hra
                  rw [rowJ_start (by omega) hwa HZO.out]
                  exact hra)
                have HEN := Lib.hid (show (tailK p c k own S2 a).set a (rowJ n p (p - t) own r n) = tailK p c k own S2 (a + 1) by
                  rw [rowJ_end hwa HWO.out.1, HCL.out]
                  exact tailK_set (by omega) (by omega) (by rw [← hr]))
                clear hr hra hrk a2 b2 hwa hX hY ht hx hy m0 m1 HCL
                go_wp2_with fail
                go_still_tail 11, (by kernel_rfl)
                change wpList _ _ _ _ _ wr.drew
                have HTd := Lib.hid (HT.out.below ((Below.refl wr.heap.size wr).drew))
                have HBd := Lib.hid (show Below lo w wr.drew from HB.out.drew)
                obtain ⟨W3, hW3⟩ : ∃ W3, W3 = wr.drew := ⟨_, rfl⟩
                have d1 : W3.cell? ⟨ga, c, none⟩ = some (.int .i64 X) := by rw [hW3]; exact c1
                have d2 : W3.cell? ⟨gt, c, none⟩ = some (.int .i64 Y) := by rw [hW3]; exact c2
                rw [← hW3] at HTd HBd ⊢
                clear hW3 c1 c2 HT HB
                go_wp2_with fail
                clear d1 d2 hw1 hmd hwt a1 i0 i1 i2 i3 d0
                go_loopw [13] (fun j wq => ∃ b : Nat, c ≤ b ∧ b ≤ n ∧ j = .int .i64 (b : Int) ∧ Below lo w wq ∧ TabL wq lo (.slice (some ⟨G, 0, none⟩) m c0) us2 ((tailK p c k own S2 a).set a (rowJ n p (p - t) own r b))) (fun j _ => n - (intOf j).toNat)
                case atStart => exact ⟨c, Nat.le_refl _, by omega, rfl, HBd.out, by rw [HST.out]; exact HTd.out⟩
                case round =>
                  obtain ⟨b, hcb, hbn, rfl, hB, hT⟩ := hrel
                  by_cases hbl : b < n
                  · obtain ⟨L, hL⟩ : ∃ L, L = (tailK p c k own S2 a).set a (rowJ n p (p - t) own r b) := ⟨_, rfl⟩
                    have hLl : L.length = m := by rw [hL, List.length_set]; exact hlt
                    have hra2 : L[a]?.getD [] = rowJ n p (p - t) own r b := by rw [hL, List.getElem?_set_self (by omega)]; rfl
                    have hrk2 : L[k]?.getD [] = own := by rw [hL, List.getElem?_set_ne (by omega), tailK_at (by omega), if_neg (by omega)]; exact HOW.out
                    rw [← hL] at hT
                    obtain ⟨_, a2, hloa⟩ := hT.hd (i := a) (n := n) (by omega) (by rw [hra2, rowJ_len]) hn0 (by omega) a3
                    obtain ⟨_, b2, _⟩ := hT.hd (i := k) (n := n) (by omega) (by rw [hrk2]; exact HWO.out.1) hn0 (by omega) hu2
                    obtain ⟨c1, f1⟩ := a2 b hbl
                    have c2 := (b2 b hbl).1
                    rw [hra2, show vec (rowJ n p (p - t) own r b) b = vec r b from rowJ_at hbl] at c1
                    rw [hrk2] at c2
                    have hsst := hT.sst (k := a) (j := b) a3 (by rw [hra2, rowJ_len]; exact hbl) ((vec r b + (p - t) * vec own b) % p)
                    rw [hra2, rowJ_set hbl, hL, List.set_set] at hsst
                    obtain ⟨v1, v2⟩ := hsst
                    have hsz := (hT.own.blkP G rfl).2
                    have HB6 := Lib.hid (show Below lo w (wr.setCell ⟨ga, b, none⟩ (.int .i64 ((vec r b + (p - t) * vec own b) % p))).drew from (hB.grown v2 (by omega) (fun r e => by cases e; exact hloa)).drew)
                    have HT6 := Lib.hid (v1.below (((Below.refl _ (wr.setCell ⟨ga, b, none⟩ (.int .i64 ((vec r b + (p - t) * vec own b) % p)))).drew)))
                    have hx := HWA.out.at (by omega) b
                    have hy := HWO.out.at (by omega) b
                    clear hB hT a2 b2 v1 v2 hra2 hrk2 hL hLl hloa hsz
                    obtain ⟨X, hX⟩ : ∃ X, X = vec r b := ⟨_, rfl⟩
                    obtain ⟨Y, hY⟩ : ∃ Y, Y = vec own b := ⟨_, rfl⟩
                    rw [← hX, ← hY] at HB6 HT6
                    rw [← hX] at c1 hx
                    rw [← hY] at c2 hy
                    clear hX hY
                    have m0 : 0 ≤ (p - t) * Y := Int.mul_nonneg (by omega) hy.1
                    have m1 : (p - t) * Y ≤ 3 * 3 := Int.mul_le_mul (by omega) (by omega) hy.1 (by omega)
                    have hw0 : IntKind.i64.wrap (p - t) = p - t := IntWalk.i64_in _ (by omega)
                    have hw1 : IntKind.i64.wrap ((p - t) * Y) = (p - t) * Y := IntWalk.i64_in _ (by omega)
                    have hw2 : IntKind.i64.wrap (X + (p - t) * Y) = X + (p - t) * Y := IntWalk.i64_in _ (by omega)
                    have hmd : Int.tmod (X + (p - t) * Y) p = (X + (p - t) * Y) % p := Int.tmod_eq_emod_of_nonneg (by omega)
                    have z0 : 0 ≤ (X + (p - t) * Y) % p := Int.emod_nonneg _ hpn
                    have z1' : (X + (p - t) * Y) % p < p := Int.emod_lt_of_pos _ (by omega)
                    have hw3 : IntKind.i64.wrap ((X + (p - t) * Y) % p) = (X + (p - t) * Y) % p := IntWalk.i64_in _ (by omega)
                    have d0 : decide ((b : Int) < (n : Int)) = true := by simp; omega
                    have i0 : (0 : Int) ≤ (b : Int) := by omega
                    have i1 : (b : Int) < (n : Int) := by omega
                    clear z0 z1' m0 m1 hx hy
                    go_wp2_with fail
                    go_still_tail 18, (by kernel_rfl)
                    change wpList _ _ _ _ _ wr.drew
                    have d1 : wr.drew.cell? ⟨ga, b, none⟩ = some (.int .i64 X) := c1
                    have d2 : wr.drew.frozen? ⟨ga, b, none⟩ = false := f1
                    clear c1 c2 f1
                    go_wp2
                    go_roundw
                    case rel => exact ⟨b + 1, by omega, by omega, by go_num, HB6.out, HT6.out⟩
                    case measure => simp [intOf]; omega
                  · have e : b = n := by omega
                    have HT5 := hT
                    rw [e, HEN.out] at HT5
                    have HT6 := Lib.hid HT5
                    have HB6 := Lib.hid hB
                    have d0 : decide ((b : Int) < (n : Int)) = false := by simp; omega
                    clear hB hT HT5 e
                    go_wp2
                    go_roundw
                    case rel => exact ⟨a + 1, by omega, by omega, by go_num, HB6.out, HT6.out⟩
                    case measure => simp [intOf]; omega
              · have e : a = m := by omega
                have HT3 := HT.out
                rw [e, show tailK p c k own S2 m = tailM p c k own S2 by rw [← hl2]; exact tailK_end (by omega)] at HT3
                have HT4 := Lib.hid HT3
                have d0 : decide ((a : Int) < (m : Int)) = false := by simp; omega
                clear HT3 e
                go_wp2
                go_roundw
                case rel => exact ⟨c + 1, k + 1, us2, _, by omega, by go_num, by go_num, HB.out, HT4.out, HN2⟩
                case measure => simp [intOf]; omega
    · have e : c = n := by omega
      have HRK := Lib.hid (show rankM p n R = k by unfold rankM; rw [← e, HS.out])
      have d1 : decide ((c : Int) < (n : Int)) = false := by simp; omega
      clear e
      go_wp2
      go_ret
      exact ⟨by rw [HRK.out]; rfl, HB.out⟩
end Go.Proofs.Ytahgialnhomefaa

namespace Go.Proofs.Ytahgialnhomefaa
open Go.RowKit Go.Maps
/-- A list of own rows, and an own row that is none of them. -/
structure TabV (W : World) (lo : Nat) (u : Value) (us : List Value) (Rs : List (List Int)) (v : Value) (zs : List Int) : Prop where
  tab : TabL W lo u us Rs
  row : OwnJ W lo v zs
  vu : ∀ r, v.ownBlock = some r → u.ownBlock ≠ some r
  vx : ∀ x ∈ us, ∀ r, v.ownBlock = some r → x.ownBlock ≠ some r
theorem TabV.below {W W' : World} {lo : Nat} {u v : Value} {us : List Value} {Rs : List (List Int)} {zs : List Int} (h : TabV W lo u us Rs v zs) (hb : Below W.heap.size W W') : TabV W' lo u us Rs v zs :=
  ⟨h.tab.below hb, h.row.below hb (Nat.le_refl _), h.vu, h.vx⟩
theorem step_append_tab {w : World} {ops : Array Oper} {o : Oper} {a : Act} {K : Act → World → Prop} {Q : Exit → Act → World → Prop} {E : Prop} (hgd : o.guard = none) (s x : Operand)
    (ho : o.op = .call { callee := .builtin .append, args := #[s, x], argTypes := #[57, 57] })
    (lo B : Nat) (u : Value) (us : List Value) (Rs : List (List Int)) (p : Option Addr) (n0 c0 : Nat) (zs : List Int) (w1 : World) (hs : a.eval s = u) (h : TabV w lo u us Rs (.slice p n0 c0) zs) (hbw : Below B w1 w) (hBl : B ≤ lo) (hlw : lo ≤ w.heap.size) (b0 c : Nat) (hx : a.eval x = .slice (some ⟨b0, 0, none⟩) 1 c)
    (hy : w.cell? ⟨b0, 0, none⟩ = some (.slice p n0 c0)) (hl : Rs.length ≤ 1100000)
    (hk : ∀ (g cap : Nat) (w' : World) (us' : List Value), TabL w' lo (.slice (some ⟨g, 0, none⟩) (Rs.length + 1) cap) us' (Rs ++ [zs]) → Below B w1 w' → lo ≤ w'.heap.size → K (a.put o.dst (.slice (some ⟨g, 0, none⟩) (Rs.length + 1) cap)) w') :
    if Region.wanted o (yielded ops a.tmps) = true then Oper.wp Try.prog o a w K Q else E := by
  have hw : Region.wanted o (yielded ops a.tmps) = true := by simp [Region.wanted, hgd]
  rw [if_pos hw]
  obtain ⟨i0, hi, hz0, hz1, hz2⟩ := info_parts infoRow
  have hown := h.tab.own
  have hul := h.tab.len
  obtain ⟨v', w', h1, h2, h3, _, h5⟩ := run_append_own_at (P := Try.prog) w lo 57 o.type 38 i0 _ 1 24 Try.underlying57 hi hz0 hz1 hz2 rfl (by decide) u us.length us hown ⟨b0, 0, none⟩ 1 c [.slice p n0 c0] rfl (fun j q hj => by
    rw [addr_at, Nat.zero_add]
    match j, hj with
    | 0, hj => simp at hj; rw [← hj]; exact hy
    | j + 1, hj => simp at hj) (fun q hq => by
    simp at hq
    rw [hq]
    rfl) (by unfold maxLen; omega) (by omega) hlw
  obtain ⟨g, cap, rfl⟩ := row_some h2
  have hV : RowsV w' lo (.slice (some ⟨g, 0, none⟩) (us.length + 1) cap) (us ++ [.slice p n0 c0]) := by
    unfold RowsV; rw [List.length_append]; exact h2
  have hG : ∀ G, (Value.slice (some ⟨g, 0, none⟩) (us.length + 1) cap).ownBlock = some G → u.ownBlock = some G ∨ w.heap.size ≤ G := fun G e => by
    have e : g = G := by simpa [Value.ownBlock] using e
    subst e
    rcases h5 with e | e
    · exact .inl (by rw [← e]; rfl)
    · have : g = w.heap.size := by simpa [Value.ownBlock] using e
      exact .inr (by omega)
  have hT := h.tab.snoc h.row h.vu h.vx h3 hV hG
  unfold Oper.wp execOp
  simp only [ho, resolve, invoke, builtin, Sem.run_bind, Sem.run_pure, Result.andThen_ok, List.map_toArray, List.map_cons, List.map_nil, hs, hx, h1]
  have hz3 := h3.size
  have := hk g cap w' _ (by rw [← hul]; exact hT) (hbw.grown h3 (by omega) (fun r e => by have := (hown.blkP r e).1; omega)) (by omega)
  rw [← hul] at this
  exact this
end Go.Proofs.Ytahgialnhomefaa

namespace Go.Proofs.Ytahgialnhomefaa
open Go.RowKit Go.Maps
theorem rank_word {n : Nat} {bs : List Blk} {M : List Int} (hM : Wf 2 n M) : ((rankM 2 n (rowsB n bs ++ [M]) : Int) == (rankM 2 n (rowsB n bs) : Int)) = !hasN (redL 2 M (basL 2 (rowsB n bs))) := by
  have h := word_rank (p := 2) (.inl rfl) (rowsB_wf (by decide) n bs) hM
  rw [Bool.eq_iff_iff]
  simp only [beq_iff_eq, Int.natCast_inj, Bool.not_eq_true']
  rw [h]
  simp
set_option maxRecDepth 100000 in
set_option maxHeartbeats 8000000 in
theorem specIsWord_any (v : Int) (s : Value) (bs : List Blk) (t : Value) (zs : List Int) (w : World) (h : SB w s bs) (ht : IB w t zs) :
    Calls Try.prog 37 #[.agg #[.int .i64 v, s], t] w (RV (boolCode (iswF v bs zs).1 (iswF v bs zs).2) w) := by
  have hs := h.slice
  have hts := ht.form
  have HPC := Lib.hid fun W (hb : Below w.heap.size w W) => l01Set_any v s bs t zs W (h.below hb (Nat.le_refl _)) (ht.below hb (Nat.le_refl _))
  have HIB := Lib.hid ht
  have hb0 := (Below.refl w.heap.size w).alloc (Nat.le_refl _) (.cells #[.int .i64 v, s] 30)
  by_cases hc : setCode v bs zs = 0
  · obtain ⟨hi, hin⟩ := set_in hc
    obtain ⟨hv3, hv15, hb35⟩ := sys_size hi
    obtain ⟨n, rfl⟩ := Int.eq_ofNat_of_zero_le (show 0 ≤ v by omega)
    have HV := Lib.hid (show iswF (n : Int) bs zs = (!hasN (redL 2 (mrkL (List.replicate n 0) zs) (basL 2 (rowsB n bs))), 0) by simp [iswF, hc])
    rw [hc] at HPC
    rw [HV.out]
    have hMW : Wf 2 n (mrkL (List.replicate n 0) zs) := ⟨by rw [mrkL_len, List.length_replicate], mrkL_in (by decide) zs _ (fun x hx => by rw [(List.mem_replicate.1 hx).2]; omega)⟩
    have HRO := Lib.hid fun W (hW : Below w.heap.size w W) => l09Rows_any n s bs W (h.below hW (Nat.le_refl _)) hi
    have HRK := Lib.hid fun (R : List (List Int)) (hR : ∀ r ∈ R, Wf 2 n r) (hl : R.length ≤ 1000) (lo : Nat) (u : Value) (us : List Value) W (hT : TabL W lo u us R) => l09Rank_any (p := 2) (.inl rfl) n (by omega) (by omega) R hR hl lo u us W hT
    have hRw := rowsB_wf (p := 2) (by decide) n bs
    have HR1 := Lib.hid fun lo u us W hT => HRK.out (rowsB n bs ++ [mrkL (List.replicate n 0) zs]) (fun r hr => by
      rcases List.mem_append.1 hr with hr | hr
      · exact hRw r hr
      · rw [List.mem_singleton] at hr; rw [hr]; exact hMW) (by simp [rowsB_len]; omega) lo u us W hT
    have HR0 := Lib.hid fun lo u us W hT => HRK.out (rowsB n bs) hRw (by rw [rowsB_len]; omega) lo u us W hT
    have HEQ := Lib.hid (rank_word (bs := bs) hMW)
    have HIN := Lib.hid hin
    have hzl := ht.1
    have hRl : (rowsB n bs).length ≤ 1100000 := by rw [rowsB_len]; omega
    obtain ⟨β, hβ⟩ : ∃ β, β = !hasN (redL 2 (mrkL (List.replicate n 0) zs) (basL 2 (rowsB n bs))) := ⟨_, rfl⟩
    rw [← hβ] at HEQ ⊢
    obtain ⟨k1, hk1⟩ : ∃ k, k = rankM 2 n (rowsB n bs ++ [mrkL (List.replicate n 0) zs]) := ⟨_, rfl⟩
    obtain ⟨k0, hk0⟩ : ∃ k, k = rankM 2 n (rowsB n bs) := ⟨_, rfl⟩
    rw [← hk1] at HEQ HR1
    rw [← hk0] at HEQ HR0
    obtain ⟨R, hR⟩ : ∃ R, R = rowsB n bs := ⟨_, rfl⟩
    rw [← hR] at HRO HR1 HR0 hRl
    have hmk := mkRow n (by omega)
    have HTK := Lib.hid fun k (hk : k < zs.length) => mrkL_take (ws := List.replicate n 0) hk
    have HLN := Lib.hid fun k => (show (mrkL (List.replicate n 0) (zs.take k)).length = n by rw [mrkL_len, List.length_replicate])
    clear h ht hc hi hin HV hRw hβ hk1 hk0 hR HRK hMW
    obtain ⟨a0, c0, rfl⟩ := hs
    obtain ⟨a1, c1, rfl⟩ := hts
    go_enter Try.func37, Try.ntmps37
    go_wp2_with fail
    refine (HPC.out _ hb0).mono ?_
    rintro e w1 ⟨rfl, hb1⟩
    have q0 := cell_new hb1 0 rfl
    have q1 := cell_new hb1 1 rfl
    have hbw := below_new hb1
    have HBW := Lib.hid hbw
    have hz1 := hbw.size
    have hlt := block_lt_of_cell q0
    clear hb1 hbw
    go_wp2_with fail
    have HO0 := Lib.hid (OwnJ.made0 w1 (base := w1.heap.size) n (by omega) (Nat.le_refl _))
    have HB0 := Lib.hid ((Below.refl w1.heap.size w1).alloc (Nat.le_refl _) (.cells (madeCells #[.int .i64 0] n) 2))
    have hz2 : (w1.alloc (.cells (madeCells #[.int .i64 0] n) 2)).heap.size = w1.heap.size + 1 := by simp
    obtain ⟨w2, hw2⟩ : ∃ w2, w2 = w1.alloc (.cells (madeCells #[.int .i64 0] n) 2) := ⟨_, rfl⟩
    rw [← hw2] at HO0 HB0 hz2 ⊢
    clear hw2 hmk
    go_loopw [8] (fun i wr => ∃ k : Nat, k ≤ zs.length ∧ i = .int .i64 (k : Int) ∧ Below w1.heap.size w1 wr ∧ w2.heap.size ≤ wr.heap.size ∧ OwnJ wr w1.heap.size (.slice (some ⟨w1.heap.size, 0, none⟩) n n) (mrkL (List.replicate n 0) (zs.take k))) (fun i _ => zs.length - (intOf i).toNat)
    case atStart => exact ⟨0, Nat.zero_le _, rfl, HB0.out, Nat.le_refl _, HO0.out⟩
    case round =>
      obtain ⟨k, hk, rfl, hB, hzr, hO⟩ := hrel
      have HB := Lib.hid hB
      have HO := Lib.hid hO
      clear hB hO
      by_cases hkl : k < zs.length
      · obtain ⟨b, off, rfl, hblt, hcell⟩ := (HIB.out.below (HBW.out.trans (HB.out.mono hz1)) (Nat.le_refl _)).get hkl
        obtain ⟨z0, z1⟩ := HIN.out (zs[k]?.getD 0) (by rw [List.getElem?_eq_getElem hkl]; exact List.getElem_mem _)
        have HT := Lib.hid (HTK.out k hkl)
        obtain ⟨z, hze⟩ : ∃ z : Nat, zs[k]?.getD 0 = (z : Int) := ⟨(zs[k]?.getD 0).toNat, by omega⟩
        rw [hze] at hcell z0 z1 HT
        have hzn : z < n := by omega
        have s1 := HO.out.at_ (i := z) (by rw [HLN.out]; exact hzn)
        have s2 := s1.1
        have s3 := s1.2.2.2.2
        have s4 := HO.out.setT (i := z) (x := 1) (by rw [HLN.out]; exact hzn)
        have HO2 := Lib.hid (show OwnJ (wr.setCell ⟨w1.heap.size, z, none⟩ (.int .i64 1)) w1.heap.size (.slice (some ⟨w1.heap.size, 0, none⟩) n n) (mrkL (List.replicate n 0) (zs.take (k + 1))) by rw [HT.out]; exact s4.1)
        have HB2 := Lib.hid (HB.out.grown s4.2 HB.out.size (fun r e => by cases e; exact Nat.le_refl _))
        have HZ2 := Lib.hid (show w2.heap.size ≤ (wr.setCell ⟨w1.heap.size, z, none⟩ (.int .i64 1)).heap.size by have := s4.2.size; omega)
        have g0 : (0 : Int) ≤ (k : Int) := by omega
        have g1 : (k : Int) < (zs.length : Int) := by omega
        generalize (mrkL (List.replicate n 0) (zs.take k))[z]?.getD 0 = old at s2
        clear s1 s4 hze HT
        go_wp2
        go_roundw
        case rel => exact ⟨k + 1, by omega, by go_num, HB2.out, HZ2.out, HO2.out⟩
        case measure => simp [intOf]; omega
      · have e : k = zs.length := by omega
        rw [e, List.take_length] at HO
        have r0 := (HB.out.cell (p := ⟨w.heap.size, 0, none⟩) hlt).trans q0
        have r1 := (HB.out.cell (p := ⟨w.heap.size, 1, none⟩) hlt).trans q1
        have d0 : decide ((k : Int) < (zs.length : Int)) = false := by simp; omega
        have HQ0 := Lib.hid q0
        have HQ1 := Lib.hid q1
        have hBE := HEQ.out
        clear e q0 q1
        obtain ⟨M, hM⟩ : ∃ M, M = mrkL (List.replicate n 0) zs := ⟨_, rfl⟩
        rw [← hM] at HO HR1
        clear hM
        have HRA := Lib.hid fun W (hW : Below w1.heap.size w1 W) (hO : OwnJ W w1.heap.size (.slice (some ⟨w1.heap.size, 0, none⟩) n n) M) (hz : w2.heap.size ≤ W.heap.size) => (HRO.out W (HBW.out.trans (hW.mono hz1))).mono (R' := fun e w' => ∃ u us, e = .returned u ∧ TabV w' w1.heap.size u us R (.slice (some ⟨w1.heap.size, 0, none⟩) n n) M ∧ Below w1.heap.size w1 w' ∧ Below W.heap.size W w') fun e w' h => by
          obtain ⟨u, us, h1, h2, h3⟩ := h
          have := hW.size
          refine ⟨u, us, h1, ⟨⟨ownsRow_base h2.own (by omega), h2.len, fun k x hk => (h2.row k x hk).baseP (by omega), h2.ne, h2.inc⟩, hO.below h3 (Nat.le_refl _), fun r e e2 => ?_, fun x hx r e e2 => ?_⟩, hW.trans (h3.mono hW.size), h3⟩
          · have e : w1.heap.size = r := by simpa [Value.ownBlock] using e
            have := (h2.own.blkP _ e2).1; omega
          · have e : w1.heap.size = r := by simpa [Value.ownBlock] using e
            obtain ⟨q, hq⟩ := List.mem_iff_getElem?.1 hx
            have := ((h2.row q x hq).blkP _ e2).1; omega
        have HRB := Lib.hid fun W (hW : Below w1.heap.size w1 W) => (HRO.out W (HBW.out.trans (hW.mono hz1))).mono (R' := fun e w' => ∃ u us, e = .returned u ∧ TabL w' w1.heap.size u us R ∧ Below w1.heap.size w1 w') fun e w' h => by
          obtain ⟨u, us, h1, h2, h3⟩ := h
          have := hW.size
          exact ⟨u, us, h1, ⟨ownsRow_base h2.own (by omega), h2.len, fun k x hk => (h2.row k x hk).baseP (by omega), h2.ne, h2.inc⟩, hW.trans (h3.mono hW.size)⟩
        go_wp2_with fail
        go_region_held3 (fun w' => w'.cell? ⟨w.heap.size, 0, none⟩ = some (.int .i64 (n : Int)) ∧ w'.cell? ⟨w.heap.size, 1, none⟩ = some (.slice a0 bs.length c0))
          (first
            | exact ⟨A0, A1⟩
            | exact ⟨r0, r1⟩
            | go_keep)
          (first
            | (go_at_call 64; refine (HRA.out _ (by first | exact HB.out | exact HB.out.drew | exact HB.out.alloc (by have := HB.out.size; omega) _ | exact (HB.out.alloc (by have := HB.out.size; omega) _).drew | exact (HB.out.drew).alloc (by have := HB.out.size; omega) _ | exact ((HB.out.drew).alloc (by have := HB.out.size; omega) _).drew) (by first | exact HO.out | exact HO.out.below ((Below.refl _ _).drew) (Nat.le_refl _) | exact HO.out.below ((Below.refl _ _).alloc (Nat.le_refl _) _) (Nat.le_refl _) | exact HO.out.below (((Below.refl _ _).alloc (Nat.le_refl _) _).drew) (Nat.le_refl _) | exact HO.out.below (((Below.refl _ _).drew).alloc (by simp) _) (Nat.le_refl _) | exact HO.out.below ((((Below.refl _ _).drew).alloc (by simp) _).drew) (Nat.le_refl _)) (by first | omega | (simp; omega))).mono ?_; rintro e w3 ⟨u, us, rfl, hV, hB3, hb3⟩; have A0 := (hB3.cell (p := ⟨w.heap.size, 0, none⟩) hlt).trans HQ0.out; have A1 := (hB3.cell (p := ⟨w.heap.size, 1, none⟩) hlt).trans HQ1.out)
            | (go_at_call 64; refine (HRB.out _ (by first | exact hB5 | exact hB5.drew)).mono ?_; rintro e w6 ⟨u6, us6, rfl, hT6, hB6⟩; have A0 := (hB6.cell (p := ⟨w.heap.size, 0, none⟩) hlt).trans HQ0.out; have A1 := (hB6.cell (p := ⟨w.heap.size, 1, none⟩) hlt).trans HQ1.out)
            | (go_at_call 63; refine (HR1.out w1.heap.size _ us4 _ (by first | exact hT4 | exact hT4.below ((Below.refl _ _).drew))).mono ?_; rintro e w5 ⟨rfl, hb5⟩; have hB5 : Below w1.heap.size w1 w5 := (by first | exact hB4.trans hb5 | exact hB4.drew.trans hb5); have A0 := (hB5.cell (p := ⟨w.heap.size, 0, none⟩) hlt).trans HQ0.out; have A1 := (hB5.cell (p := ⟨w.heap.size, 1, none⟩) hlt).trans HQ1.out)
            | (go_at_call 63; refine (HR0.out w1.heap.size _ us6 _ (by first | exact hT6 | exact hT6.below ((Below.refl _ _).drew))).mono ?_; rintro e w7 ⟨rfl, hb7⟩; have hB7 : Below w1.heap.size w1 w7 := (by first | exact hB6.trans hb7 | exact hB6.drew.trans hb7); have A0 := (hB7.cell (p := ⟨w.heap.size, 0, none⟩) hlt).trans HQ0.out; have A1 := (hB7.cell (p := ⟨w.heap.size, 1, none⟩) hlt).trans HQ1.out)
            | (refine step_append_tab rfl (.tmp 31) (.tmp 33) rfl w1.heap.size w1.heap.size u us R (some ⟨w1.heap.size, 0, none⟩) n n M w1 (by simp [Act.eval]) (by first | exact hV | exact hV.below ((Below.refl _ _).drew) | exact hV.below ((Below.refl _ _).alloc (Nat.le_refl _) _) | exact hV.below (((Below.refl _ _).alloc (Nat.le_refl _) _).drew) | exact hV.below (((Below.refl _ _).drew).alloc (by simp) _) | exact hV.below ((((Below.refl _ _).drew).alloc (by simp) _).drew)) (by first | exact hB3 | exact hB3.drew | exact hB3.alloc (by have := hB3.size; omega) _ | exact (hB3.alloc (by have := hB3.size; omega) _).drew | exact (hB3.drew).alloc (by have := hB3.size; omega) _ | exact ((hB3.drew).alloc (by have := hB3.size; omega) _).drew) (Nat.le_refl _) (by have := hB3.size; (first | omega | (simp; omega))) w3.heap.size 1 (by simp [Act.eval]) (by simp [go_sem]; done) hRl ?_; intro g4 cap4 w4 us4 hT4 hB4 hz4; have A0 := (hB4.cell (p := ⟨w.heap.size, 0, none⟩) hlt).trans HQ0.out; have A1 := (hB4.cell (p := ⟨w.heap.size, 1, none⟩) hlt).trans HQ1.out)
            | (refine step_append_tab rfl (.tmp 31) (.tmp 33) rfl w1.heap.size w1.heap.size u us R (some ⟨w1.heap.size, 0, none⟩) n n M w1 (by simp [Act.eval]) (by first | exact hV | exact hV.below ((Below.refl _ _).drew) | exact hV.below ((Below.refl _ _).alloc (Nat.le_refl _) _) | exact hV.below (((Below.refl _ _).alloc (Nat.le_refl _) _).drew) | exact hV.below (((Below.refl _ _).drew).alloc (by simp) _) | exact hV.below ((((Below.refl _ _).drew).alloc (by simp) _).drew)) (by first | exact hB3 | exact hB3.drew | exact hB3.alloc (by have := hB3.size; omega) _ | exact (hB3.alloc (by have := hB3.size; omega) _).drew | exact (hB3.drew).alloc (by have := hB3.size; omega) _ | exact ((hB3.drew).alloc (by have := hB3.size; omega) _).drew) (Nat.le_refl _) (by have := hB3.size; (first | omega | (simp; omega))) wr.heap.size 1 (by simp [Act.eval]) (by exact (hb3.cell (p := ⟨wr.heap.size, 0, none⟩) (by simp)).trans (by simp [go_sem])) hRl ?_; intro g4 cap4 w4 us4 hT4 hB4 hz4; have A0 := (hB4.cell (p := ⟨w.heap.size, 0, none⟩) hlt).trans HQ0.out; have A1 := (hB4.cell (p := ⟨w.heap.size, 1, none⟩) hlt).trans HQ1.out))
        all_goals
          have hB9 := HBW.out.trans (hB7.mono hz1)
          go_wp2
          exact bodyPost_ret (v := boolCode β 0) (by simp [results, Try.results37, boolCode, go_sem, *]) rfl (RV_of rfl (by first | exact hB9 | exact hB9.drew))
  · have HV := Lib.hid (show iswF v bs zs = (false, setCode v bs zs) by simp [iswF, hc])
    obtain ⟨κ, hκ⟩ : ∃ κ, κ = setCode v bs zs := ⟨_, rfl⟩
    rw [← hκ] at HPC HV hc
    have hne : (κ != 0) = true := by simpa using hc
    clear hc hκ h ht HIB
    rw [HV.out]
    obtain ⟨a0, c0, rfl⟩ := hs
    obtain ⟨a1, c1, rfl⟩ := hts
    go_enter Try.func37, Try.ntmps37
    go_wp2_with fail
    refine (HPC.out _ hb0).mono ?_
    rintro e w1 ⟨rfl, hb1⟩
    have hbw := below_new hb1
    clear hb1
    go_wp2
    exact bodyPost_ret (v := boolCode false κ) (by simp [results, Try.results37, boolCode, go_sem, *]) rfl (RV_of rfl hbw)
end Go.Proofs.Ytahgialnhomefaa

namespace Go.Proofs.Ytahgialnhomefaa
open Go.ChangeShapes Go.WideShapes Go.ChangeAt Go.RowKit Go.Deep Go.Joins
theorem ownKnobs : ownKnob Try.prog.godebug = none := by kernel_rfl
section
variable {H : Type} {enc : TypeId × Value → H} {W : World} {base : Nat} {held : Bool}
theorem arrCells : Try.prog.cellsOf 83 = 3 := by kernel_rfl
set_option maxRecDepth 100000 in
theorem open_arr3 {fuel : Nat} {cs : List Value} {x : DataW H × List MemPlace} (h : DataW.trod enc Try.prog W base (fun _ => true) held fuel 83 cs = some x) :
    ∃ a b c : Int, cs = [.int .i64 a, .int .i64 b, .int .i64 c] ∧ (Lit.int .i64 a).wf = true ∧ (Lit.int .i64 b).wf = true ∧ (Lit.int .i64 c).wf = true := by
  obtain ⟨xs, m, rfl, rfl, hl, hx, hat⟩ := DataW.trod_array Try.underlying83 h
  rw [arrCells] at hl
  match cs, hl with
  | [c0, c1, c2], _ =>
    match xs, hx with
    | [x0, x1, x2], _ =>
      have h0 := hat 0 (by omega)
      have h1 := hat 1 (by omega)
      have h2 := hat 2 (by omega)
      rw [int64Cells] at h0 h1 h2
      simp at h0 h1 h2
      obtain ⟨a, ha, _, wa⟩ := DataW.trod_int Try.underlying2 h0
      obtain ⟨b, hb, _, wb⟩ := DataW.trod_int Try.underlying2 h1
      obtain ⟨c, hc, _, wc⟩ := DataW.trod_int Try.underlying2 h2
      simp at ha hb hc
      exact ⟨a, b, c, by rw [ha, hb, hc], wa, wb, wc⟩
theorem add_at (b off i : Nat) : (⟨b, off, none⟩ : Addr).add i = ⟨b, off + i, none⟩ := by
  unfold Addr.add
  split
  · subst_vars; rfl
  · rfl
set_option maxRecDepth 100000 in
theorem open_arrs {fuel : Nat} {s : Value} {x : DataW H × List MemPlace} (h : DataW.trod enc Try.prog W base (fun _ => true) held fuel 22 [s] = some x) : ∃ bs, InB W s bs := by
  rcases open_slice Try.underlying22 h with ⟨hcs, _⟩ | ⟨a, len, cap, m, n, D, Pl, hcs, hb, hl, hm, hmm, hx, hi⟩
  · simp at hcs
    exact ⟨[], by simp, by simp, .inl ⟨none, 0, hcs, rfl⟩⟩
  · simp at hcs
    subst hcs
    simp at hmm
    subst hmm
    have hm' : m ≤ 9223372036854775807 := by unfold maxLen at hm; exact hm
    by_cases h0 : len = 0
    · subst h0
      exact ⟨[], by simp, by simp, .inl ⟨_, _, rfl, rfl⟩⟩
    · have cell : ∀ i, i < m → ∃ y : Blk, WFB y ∧ ∀ j (v : Value), [Value.int .i64 y.a, Value.int .i64 y.b, Value.int .i64 y.c][j]? = some v → W.cell? (a.add (i * 3 + j)) = some v := fun i him => by
        obtain ⟨cs', hc, ht⟩ := hi i him
        obtain ⟨p, q, r, rfl, wp, wq, wr⟩ := open_arr3 ht
        rw [arrCells] at hc
        obtain ⟨_, _, hat⟩ := World.cells?_some hc
        refine ⟨⟨p, q, r⟩, ⟨wp, wq, wr⟩, fun j v hv => ?_⟩
        have hj : j < 3 := by
          have := (List.getElem?_eq_some_iff.1 hv).1
          simpa using this
        rw [← Go.Deep.add_add, hat j hj]
        exact hv
      obtain ⟨F, hF⟩ := choose_lt (α := Blk) cell
      obtain ⟨b, off, spot⟩ := a
      have hc0 := (hF 0 (by omega)).2 0 _ rfl
      have hspot : spot = none := by simpa [Addr.add] using World.cell?_spot hc0
      subst hspot
      refine ⟨(List.range len).map F, ?_, by simp; omega, .inr ⟨b, off, m, by simp, ?_, ?_⟩⟩
      · intro y hy
        obtain ⟨i, hi', rfl⟩ := List.mem_map.1 hy
        exact (hF i (by have := List.mem_range.1 hi'; omega)).1
      · exact block_lt_of_cell hc0
      · intro k hk
        simp at hk
        have e : ((List.range len).map F)[k]?.getD default = F k := by simp [hk]
        rw [e]
        have := (hF k (by omega)).2
        refine ⟨?_, ?_, ?_⟩
        · have h0 := this 0 _ rfl
          rw [add_at] at h0
          exact h0
        · have h1 := this 1 _ rfl
          rw [add_at, ← Nat.add_assoc] at h1
          exact h1
        · have h2 := this 2 _ rfl
          rw [add_at, ← Nat.add_assoc] at h2
          exact h2
theorem isSys : ∃ f0 f1 : Field, Try.prog.underlying 24 = some (.struct #[f0, f1]) ∧ f0.type = 2 ∧ f1.type = 22 ∧ oneCellFields Try.prog #[f0, f1] = true :=
  ⟨_, _, Try.underlying24, rfl, rfl, by kernel_rfl⟩
theorem sysCells : Try.prog.cellsOf 24 = 2 := by kernel_rfl
set_option maxRecDepth 100000 in
theorem open_system {r : Reach} {b0 : Nat} {v : Value} {d : DataW H} {p : List MemPlace} (hv : Value.okWide Try.prog W r b0 24 v) (h : DataW.Trod enc Try.prog W base (fun _ => true) held 24 v d p) :
    ∃ (n : Int) (s : Value) (bs : List Blk), v = .agg #[.int .i64 n, s] ∧ WF n ∧ InB W s bs := by
  obtain ⟨f0, f1, hu, e0, e1, hone⟩ := isSys
  obtain ⟨v0, v1, y0, y1, n, rfl, _, _, h0, h1⟩ := open_agg2 hu hone sysCells hv h
  rw [e0] at h0
  rw [e1] at h1
  obtain ⟨k, hk, _, wk⟩ := DataW.trod_int Try.underlying2 h0
  simp at hk
  subst hk
  obtain ⟨bs, hbs⟩ := open_arrs h1
  exact ⟨k, v1, bs, rfl, wk, hbs⟩
end
end Go.Proofs.Ytahgialnhomefaa

namespace Go.Proofs.Ytahgialnhomefaa
open Go.ChangeShapes Go.WideShapes Go.ChangeAt Go.RowKit Go.Deep Go.Joins
/-- The value is a slice of just these integers, however many. -/
def InZ (w : World) (s : Value) (zs : List Int) : Prop :=
  (∀ z ∈ zs, WF z) ∧ zs.length ≤ 9223372036854775807 ∧ ((∃ a c, s = .slice a 0 c ∧ zs = []) ∨ ∃ b off cap, s = .slice (some ⟨b, off, none⟩) zs.length cap ∧ b < w.heap.size ∧ Ints w b off zs)
theorem InZ.slice {w : World} {s : Value} {zs : List Int} (h : InZ w s zs) : ∃ a c, s = .slice a zs.length c := by
  rcases h.2.2 with ⟨a, c, rfl, rfl⟩ | ⟨b, off, cap, rfl, _⟩ <;> exact ⟨_, _, rfl⟩
theorem InZ.ib {w : World} {s : Value} {zs : List Int} (h : InZ w s zs) (hl : zs.length ≤ 1048576) : IB w s zs := ⟨by omega, h.2.2⟩
/-- The value is a slice of just these rows, however many. -/
def InSS (w : World) (s : Value) (n : Nat) (F : Nat → List Int) : Prop :=
  n ≤ 9223372036854775807 ∧ ((n = 0 ∧ ∃ a c, s = .slice a 0 c) ∨ ∃ b off cap, s = .slice (some ⟨b, off, none⟩) n cap ∧ b < w.heap.size ∧ ∀ k, k < n → ∃ u, w.cell? ⟨b, off + k, none⟩ = some u ∧ InZ w u (F k))
theorem okWide_array {P : Program} {w : World} {r : Reach} {base : Nat} {t : TypeId} {v : Value} {n : Nat} {e : TypeId} (ht : P.underlying t = some (.array n e)) (h : Value.okWide P w r base t v) : ∃ cs, v = .agg cs ∧ cs.size = P.cellsOf t := by
  simp only [Value.okWide, ht] at h
  obtain ⟨cs, h1, h2, _⟩ := h
  exact ⟨cs, h1, h2⟩
section
variable {H : Type} {enc : TypeId × Value → H} {W : World} {base : Nat} {held : Bool}
set_option maxRecDepth 100000 in
theorem open_zs {fuel : Nat} {s : Value} {x : DataW H × List MemPlace} (h : DataW.trod enc Try.prog W base (fun _ => true) held fuel 38 [s] = some x) : ∃ zs, InZ W s zs := by
  rcases open_slice1 Try.underlying38 int64Cells h with ⟨hcs, _⟩ | ⟨a, len, cap, m, n, V, D, Pl, hcs, hb, hl, hm, hmm, hx, hi⟩
  · simp at hcs
    exact ⟨[], by simp, by simp, .inl ⟨none, 0, hcs, rfl⟩⟩
  · simp at hcs
    subst hcs
    simp at hmm
    subst hmm
    have hm' : m ≤ 9223372036854775807 := by unfold maxLen at hm; exact hm
    by_cases h0 : len = 0
    · subst h0
      exact ⟨[], by simp, by simp, .inl ⟨_, _, rfl, rfl⟩⟩
    · have cell : ∀ i, i < m → ∃ y : Int, WF y ∧ W.cell? (a.add i) = some (.int .i64 y) := fun i him => by
        obtain ⟨hc, ht⟩ := hi i him
        obtain ⟨k, hk, _, wk⟩ := DataW.trod_int Try.underlying2 ht
        simp at hk
        exact ⟨k, wk, by rw [hc, hk]⟩
      obtain ⟨F, hF⟩ := choose_lt (α := Int) cell
      obtain ⟨b, off, spot⟩ := a
      have hc0 := (hF 0 (by omega)).2
      have hspot : spot = none := by simpa [Addr.add] using World.cell?_spot hc0
      subst hspot
      refine ⟨(List.range len).map F, ?_, by simp; omega, .inr ⟨b, off, m, by simp, ?_, ?_⟩⟩
      · intro y hy
        obtain ⟨i, hi', rfl⟩ := List.mem_map.1 hy
        exact (hF i (by have := List.mem_range.1 hi'; omega)).1
      · exact block_lt_of_cell hc0
      · intro k hk
        simp at hk
        have e : ((List.range len).map F)[k]?.getD 0 = F k := by simp [hk]
        rw [e]
        have h1 := (hF k (by omega)).2
        rw [add_at] at h1
        exact h1
set_option maxRecDepth 100000 in
theorem open_ints64 {r : Reach} {b0 : Nat} {v : Value} {d : DataW H} {p : List MemPlace} (hv : Value.okWide Try.prog W r b0 38 v) (h : DataW.Trod enc Try.prog W base (fun _ => true) held 38 v d p) : ∃ zs, InZ W v zs := by
  obtain ⟨a, len, cap, rfl⟩ := okWide_slice Try.underlying38 hv
  obtain ⟨fuel, hf⟩ := h
  exact open_zs hf
set_option maxRecDepth 100000 in
theorem open_blocks {r : Reach} {b0 : Nat} {v : Value} {d : DataW H} {p : List MemPlace} (hv : Value.okWide Try.prog W r b0 22 v) (h : DataW.Trod enc Try.prog W base (fun _ => true) held 22 v d p) : ∃ bs, InB W v bs := by
  obtain ⟨a, len, cap, rfl⟩ := okWide_slice Try.underlying22 hv
  obtain ⟨fuel, hf⟩ := h
  exact open_arrs hf
theorem sliceCells : Try.prog.cellsOf 38 = 1 := by kernel_rfl
set_option maxRecDepth 100000 in
theorem open_rows {r : Reach} {b0 : Nat} {v : Value} {d : DataW H} {p : List MemPlace} (hv : Value.okWide Try.prog W r b0 57 v) (h : DataW.Trod enc Try.prog W base (fun _ => true) held 57 v d p) : ∃ n F, InSS W v n F := by
  obtain ⟨A0, L0, C0, rfl⟩ := okWide_slice Try.underlying57 hv
  obtain ⟨fuel, hf⟩ := h
  have hf' : DataW.trod enc Try.prog W base (fun _ => true) held fuel 57 [.slice A0 L0 C0] = some (d, p) := hf
  rcases open_slice1 Try.underlying57 sliceCells hf' with ⟨hcs, _⟩ | ⟨a, len, cap, m, n, V, D, Pl, hcs, hb, hl, hm, hmm, hx, hi⟩
  · simp at hcs
    obtain ⟨rfl, rfl, rfl⟩ := hcs
    exact ⟨0, fun _ => [], by omega, .inl ⟨rfl, _, _, rfl⟩⟩
  · simp at hcs
    obtain ⟨e1, e2, e3⟩ := hcs
    subst e1
    subst e2
    subst e3
    simp at hmm
    subst hmm
    have hm' : m ≤ 9223372036854775807 := by unfold maxLen at hm; exact hm
    by_cases h0 : L0 = 0
    · subst h0
      exact ⟨0, fun _ => [], by omega, .inl ⟨rfl, _, _, rfl⟩⟩
    · have cell : ∀ i, i < m → ∃ y : List Int, ∃ u, W.cell? (a.add i) = some u ∧ InZ W u y := fun i him => by
        obtain ⟨hc, ht⟩ := hi i him
        obtain ⟨zs, hz⟩ := open_zs ht
        exact ⟨zs, _, hc, hz⟩
      obtain ⟨F, hF⟩ := choose_lt (α := List Int) cell
      obtain ⟨b, off, spot⟩ := a
      obtain ⟨u0, hc0, _⟩ := hF 0 (by omega)
      have hspot : spot = none := by simpa [Addr.add] using World.cell?_spot hc0
      subst hspot
      refine ⟨L0, F, by omega, .inr ⟨b, off, m, rfl, block_lt_of_cell hc0, fun k hk => ?_⟩⟩
      obtain ⟨u, h1, h2⟩ := hF k (by omega)
      rw [add_at] at h1
      exact ⟨u, h1, h2⟩
set_option maxRecDepth 100000 in
theorem open_blk {r : Reach} {b0 : Nat} {v : Value} {d : DataW H} {p : List MemPlace} (hv : Value.okWide Try.prog W r b0 83 v) (h : DataW.Trod enc Try.prog W base (fun _ => true) held 83 v d p) : ∃ x, v = bv x ∧ WFB x := by
  obtain ⟨cs, rfl, hsz⟩ := okWide_array Try.underlying83 hv
  obtain ⟨fuel, hf⟩ := h
  obtain ⟨a, b, c, e, wa, wb, wc⟩ := open_arr3 hf
  have : cs.toList = [.int .i64 a, .int .i64 b, .int .i64 c] := e
  refine ⟨⟨a, b, c⟩, ?_, wa, wb, wc⟩
  unfold bv
  rw [← this]
end
end Go.Proofs.Ytahgialnhomefaa

namespace Go.Proofs.Ytahgialnhomefaa
open Go.RowKit Go.Maps
structure CS (w : World) (v p : Int) (s sW s8 sG : Value) (XW X XG i0 i1 j1 j2 k1 k2 : Nat) (LW L8 LG : List Blk) (W : World) : Prop where
  st : St1 w v s W
  o0 : w.heap.size < i0
  o1 : i0 ≤ i1
  o2 : i1 ≤ XW
  o3 : XW < j1
  o4 : j1 ≤ j2
  o5 : j2 ≤ X
  o6 : X < k1
  o7 : k1 ≤ k2
  o8 : k2 ≤ XG
  rW : ResR W i0 i1 sW LW
  vW : VarB W XW p sW
  r8 : ResR W j1 j2 s8 L8
  vX : VarB W X v s8
  rG : ResR W k1 k2 sG LG
  vG : VarB W XG p sG
section
variable {w : World} {v p : Int} {s sW s8 sG : Value} {XW X XG i0 i1 j1 j2 k1 k2 : Nat} {LW L8 LG : List Blk} {W W' : World}
theorem CS.step (h : CS w v p s sW s8 sG XW X XG i0 i1 j1 j2 k1 k2 LW L8 LG W) (hg : W.grownBy W' none) : CS w v p s sW s8 sG XW X XG i0 i1 j1 j2 k1 k2 LW L8 LG W' :=
  ⟨h.st.step hg (by simp), h.o0, h.o1, h.o2, h.o3, h.o4, h.o5, h.o6, h.o7, h.o8, h.rW.kept hg (by simp), h.vW.step hg (by simp), h.r8.kept hg (by simp), h.vX.step hg (by simp), h.rG.kept hg (by simp), h.vG.step hg (by simp)⟩
theorem CS.mark8 (h : CS w v p s sW s8 sG XW X XG i0 i1 j1 j2 k1 k2 LW L8 LG W) {row : Option Nat} (hg : W.grownBy W' row) (hr : ∀ r, row = some r → j1 ≤ r ∧ r < j2) {L : List Blk} (hn : ResR W' j1 j2 s8 L) :
    CS w v p s sW s8 sG XW X XG i0 i1 j1 j2 k1 k2 LW L LG W' := by
  obtain ⟨st, o0, o1, o2, o3, o4, o5, o6, o7, o8, rW, vW, r8, vX, rG, vG⟩ := h
  exact ⟨st.step hg (fun r e => by have := hr r e; omega), o0, o1, o2, o3, o4, o5, o6, o7, o8, rW.kept hg (fun r e => by have := hr r e; omega), vW.step hg (fun e => by have := hr _ e; omega), hn, vX.step hg (fun e => by have := hr _ e; omega), rG.kept hg (fun r e => by have := hr r e; omega), vG.step hg (fun e => by have := hr _ e; omega)⟩
theorem CS.markG (h : CS w v p s sW s8 sG XW X XG i0 i1 j1 j2 k1 k2 LW L8 LG W) {row : Option Nat} (hg : W.grownBy W' row) (hr : ∀ r, row = some r → k1 ≤ r ∧ r < k2) {L : List Blk} (hn : ResR W' k1 k2 sG L) :
    CS w v p s sW s8 sG XW X XG i0 i1 j1 j2 k1 k2 LW L8 L W' := by
  obtain ⟨st, o0, o1, o2, o3, o4, o5, o6, o7, o8, rW, vW, r8, vX, rG, vG⟩ := h
  exact ⟨st.step hg (fun r e => by have := hr r e; omega), o0, o1, o2, o3, o4, o5, o6, o7, o8, rW.kept hg (fun r e => by have := hr r e; omega), vW.step hg (fun e => by have := hr _ e; omega), r8.kept hg (fun r e => by have := hr r e; omega), vX.step hg (fun e => by have := hr _ e; omega), hn, vG.step hg (fun e => by have := hr _ e; omega)⟩
end
end Go.Proofs.Ytahgialnhomefaa



namespace Go.Proofs.Ytahgialnhomefaa
open Go.RowKit Go.Maps
set_option maxRecDepth 100000 in
set_option maxHeartbeats 2000000 in
theorem FnExactIsWord_main (v0 : Int) (s0 : Value) (bs0 : List Blk) (s1 : Value) (zs1 : List Int) (w : World) (h0 : InB w s0 bs0) (h1 : InZ w s1 zs1) (hl : bs0.length ≤ 1048576) (hl1 : zs1.length ≤ 1048576) :
    Calls Try.prog 11 #[.agg #[.int .i64 v0, s0], s1] w (RV (.bool true) w) := by
  have hsl0 := h0.slice
  have hbd0 := h0.2.1
  have hsz0 := szSystem_any v0 s0 bs0.length hsl0 (by omega) 1048576 (by omega) (by omega)
  rw [if_neg (by omega)] at hsz0
  obtain ⟨m0, hm0⟩ : ∃ m, m = (1048576 : Int) - (bs0.length : Int) := ⟨_, rfl⟩
  rw [← hm0] at hsz0
  have hmp0 : 0 ≤ m0 := by omega
  have HSZ0 := Lib.hid hsz0
  have HSB0 := Lib.hid (h0.sb (by omega))
  have HBD0 := Lib.hid (show bs0.length ≤ 1100000 by omega)
  have HWF0 := Lib.hid h0.1
  have hsl1 := h1.slice
  have HIB1 := Lib.hid (h1.ib hl1)
  have HWF1 := Lib.hid h1.1
  have HBD1 := Lib.hid (show zs1.length ≤ 1100000 by omega)
  have hd1 : decide ((1048576 : Int) < (zs1.length : Int)) = false := by simp; omega
  have hdn1 : decide (1048576 < zs1.length) = false := by simp; omega
  obtain ⟨L, hL⟩ : ∃ L, L = (iswF v0 bs0 zs1).1 := ⟨_, rfl⟩
  obtain ⟨κ, hκ⟩ : ∃ κ, κ = (iswF v0 bs0 zs1).2 := ⟨_, rfl⟩
  have hp : iswF v0 bs0 zs1 = (L, κ) := by rw [hL, hκ]
  have HSP := Lib.hid fun (W : World) (t0 : Value) (r0 : SC W t0 bs0) (t1 : Value) (r1 : IB W t1 zs1) => specIsWord_any v0 t0 bs0 t1 zs1 W r0.1 r1
  have HIM := Lib.hid fun (W : World) (t0 : Value) (r0 : SB W t0 bs0) (t1 : Value) (r1 : IB W t1 zs1) => IsWord_any v0 t0 bs0 t1 zs1 W r0 r1
  rw [hp] at HSP HIM
  try unfold boolCode at HSP HIM
  try dsimp only at HSP HIM
  have hnk : (κ != κ) = false := by simp
  have hnb : (L != L) = false := by simp
  clear hsz0 hm0 hbd0 hL hκ hp h0 h1 hl
  obtain ⟨a0, c0, rfl⟩ := hsl0
  obtain ⟨a1, c1, rfl⟩ := hsl1
  go_enter Try.func11, Try.ntmps11
  have hm := ((Mem.start w).pushVar v0 (.slice a0 bs0.length c0) 24)
  have fA00 := (hm.var 0 rfl).c0
  have fA01 := (hm.var 0 rfl).c1
  have HM := Lib.hid hm
  clear hm
  go_wp2_with fail
  refine (HSZ0.out _).mono ?_
  rintro e w1 ⟨rfl, hbw1⟩
  have hm := HM.out.step (gb_below hbw1)
  clear fA00 fA01
  clear HM hbw1
  have fA00 := (hm.var 0 rfl).c0
  have fA01 := (hm.var 0 rfl).c1
  have HM := Lib.hid hm
  clear hm
  go_wp2_with fail
  refine (toSystem_any v0 _ bs0 _ (HSB0.out.below HM.out.below (Nat.le_refl _))).mono ?_
  rintro e w2 ⟨tw2, rfl, how2, hbw2⟩
  have r3 := how2.sc HWF0.out HBD0.out
  obtain ⟨gw2, capw2, hsw2, _⟩ := id how2
  subst hsw2
  have hm := HM.out.step (gb_below hbw2)
  clear fA00 fA01
  clear HM hbw2 how2
  have fA00 := (hm.var 0 rfl).c0
  have fA01 := (hm.var 0 rfl).c1
  have HM := Lib.hid hm
  clear hm
  go_wp2_with fail
  refine (toInt64S_own _ zs1 _ (HIB1.out.below HM.out.below (Nat.le_refl _))).mono ?_
  rintro e w4 ⟨tw4, rfl, ⟨gw4, capw4, hsw4⟩, hbw4, how4⟩
  subst hsw4
  have r5 := r3.below hbw4 (Nat.le_refl _)
  clear r3
  have r6 := how4.ib HBD1.out
  have hm := HM.out.step (gb_below hbw4)
  clear fA00 fA01
  clear HM hbw4 how4
  have fA00 := (hm.var 0 rfl).c0
  have fA01 := (hm.var 0 rfl).c1
  have HM := Lib.hid hm
  clear hm
  go_wp2_with fail
  refine (HSP.out _ _ r5 _ r6).mono ?_
  rintro e w7 ⟨rfl, hbw7⟩
  clear r5
  clear r6
  have hm := HM.out.step (gb_below hbw7)
  clear fA00 fA01
  clear HM hbw7
  have fA00 := (hm.var 0 rfl).c0
  have fA01 := (hm.var 0 rfl).c1
  have HM := Lib.hid hm
  clear hm
  go_wp2_with fail
  refine (toSystem_any v0 _ bs0 _ (HSB0.out.below HM.out.below (Nat.le_refl _))).mono ?_
  rintro e w8 ⟨tw8, rfl, how8, hbw8⟩
  have hrw8 := how8.res
  obtain ⟨gw8, capw8, hsw8, _⟩ := id how8
  subst hsw8
  have hm := (HM.out.pushB hbw8 hrw8).pushVar v0 (.slice (some ⟨gw8, 0, none⟩) bs0.length capw8) 30
  clear fA00 fA01
  clear HM hbw8 hrw8 how8
  have fVX00 := (hm.var 0 rfl).c0
  have fVX01 := (hm.var 0 rfl).c1
  have fA00 := (hm.var 2 rfl).c0
  have fA01 := (hm.var 2 rfl).c1
  have HM := Lib.hid hm
  clear hm
  go_wp2_with fail
  refine (toInt64S_own _ zs1 _ (HIB1.out.below HM.out.below (Nat.le_refl _))).mono ?_
  rintro e w9 ⟨tw9, rfl, ⟨gw9, capw9, hsw9⟩, hbw9, hrw9⟩
  subst hsw9
  have hm := HM.out.pushI hbw9 hrw9
  clear fVX00 fVX01 fA00 fA01
  clear HM hbw9 hrw9
  have fVX00 := (hm.var 1 rfl).c0
  have fVX01 := (hm.var 1 rfl).c1
  have fA00 := (hm.var 3 rfl).c0
  have fA01 := (hm.var 3 rfl).c1
  have HM := Lib.hid hm
  clear hm
  go_wp2_with fail
  refine (HIM.out _ _ ((HM.out.blks 2 rfl).sb HWF0.out HBD0.out) _ ((HM.out.ints 0 rfl).ib HBD1.out)).mono ?_
  rintro e w10 ⟨rfl, hbw10⟩
  have hm := HM.out.step (gb_below hbw10)
  clear fVX00 fVX01 fA00 fA01
  clear HM hbw10
  have fVX00 := (hm.var 1 rfl).c0
  have fVX01 := (hm.var 1 rfl).c1
  have fA00 := (hm.var 3 rfl).c0
  have fA01 := (hm.var 3 rfl).c1
  have HM := Lib.hid hm
  clear hm
  go_upto_region 13 with fail
  go_cut [50] (fun sq wx => sq = .bool false ∧ MemOf HM.out wx)
  case first =>
    go_region_with (first | (go_at_call 16; refine (toSystem_any v0 _ bs0 _ ?_).mono ?_; (exact HSB0.out.below HM.out.below.drew (Nat.le_refl _)); rintro e w11 ⟨tw11, rfl, how11, hbw11⟩; have hmx := (HM.out.step (gb_drew1 _)).step (gb_below hbw11); have ec0 := (hmx.var 1 rfl).c0; have ec1 := (hmx.var 1 rfl).c1; have HMX := Lib.hid hmx; clear hmx; have hsbw11 := how11.sb HWF0.out HBD0.out; obtain ⟨gw11, capw11, hsw11, _⟩ := id how11; subst hsw11) | (go_at_call 18; refine (eqSystem_same v0 _ _ bs0 _ ?_ ?_).mono ?_; (exact ((HMX.out.blks 2 rfl).sb HWF0.out HBD0.out)); (exact hsbw11); rintro e w12 ⟨rfl, hbw12⟩))
    all_goals
      go_wp2_with fail
      go_meet
      exact ⟨rfl, HMX.out.step (gb_below hbw12)⟩
  case rest =>
  obtain ⟨rfl, hm⟩ := hcut
  unfold MemOf at hm
  obtain ⟨yc0, rfl⟩ : ∃ W, W = wc := ⟨_, rfl⟩
  clear fVX00 fVX01 fA00 fA01
  clear HM
  have fVX00 := (hm.var 1 rfl).c0
  have fVX01 := (hm.var 1 rfl).c1
  have fA00 := (hm.var 3 rfl).c0
  have fA01 := (hm.var 3 rfl).c1
  have HM := Lib.hid hm
  clear hm
  go_wp2_with fail
  refine (toInt64S_own _ zs1 _ (HIB1.out.below HM.out.below (Nat.le_refl _))).mono ?_
  rintro e w13 ⟨tw13, rfl, ⟨gw13, capw13, hsw13⟩, hbw13, how13⟩
  subst hsw13
  have hkw13 := how13.ib HBD1.out
  have hm := HM.out.step (gb_below hbw13)
  clear fVX00 fVX01 fA00 fA01
  clear HM hbw13 how13
  have fVX00 := (hm.var 1 rfl).c0
  have fVX01 := (hm.var 1 rfl).c1
  have fA00 := (hm.var 3 rfl).c0
  have fA01 := (hm.var 3 rfl).c1
  have HM := Lib.hid hm
  clear hm
  go_wp2_with fail
  refine (eqInt64S_same _ _ zs1 _ ((HM.out.ints 0 rfl).ib HBD1.out) hkw13).mono ?_
  rintro e w14 ⟨rfl, hbw14⟩
  have hm := HM.out.step (gb_below hbw14)
  clear fVX00 fVX01 fA00 fA01
  clear HM hbw14 hkw13
  have fVX00 := (hm.var 1 rfl).c0
  have fVX01 := (hm.var 1 rfl).c1
  have fA00 := (hm.var 3 rfl).c0
  have fA01 := (hm.var 3 rfl).c1
  have HM := Lib.hid hm
  clear hm
  go_wp2
  go_ret
  exact RV_of rfl HM.out.below
set_option maxRecDepth 100000 in
theorem FnExactIsWord_top1 (v0 : Int) (s0 : Value) (bs0 : List Blk) (s1 : Value) (zs1 : List Int) (w : World) (h0 : InB w s0 bs0) (h1 : InZ w s1 zs1)  (hl1 : ¬ zs1.length ≤ 1048576) : Calls Try.prog 11 #[.agg #[.int .i64 v0, s0], s1] w (RV (.bool true) w) := by
  have hsl0 := h0.slice
  have hsl1 := h1.slice
  have hd1 : decide ((1048576 : Int) < (zs1.length : Int)) = true := by simp; omega
  have hdn1 : decide (1048576 < zs1.length) = true := by simp; omega
  have hdi1 : 1048576 < zs1.length := by omega
  clear hl1 h0 h1
  obtain ⟨a0, c0, rfl⟩ := hsl0
  obtain ⟨a1, c1, rfl⟩ := hsl1
  go_enter Try.func11, Try.ntmps11
  go_wp2
  go_ret
  exact RV_of rfl ((Below.refl _ _).alloc (by simp <;> omega) _)
set_option maxRecDepth 100000 in
theorem FnExactIsWord_long0 (v0 : Int) (s0 : Value) (bs0 : List Blk) (s1 : Value) (zs1 : List Int) (w : World) (h0 : InB w s0 bs0) (h1 : InZ w s1 zs1) (hl1 : zs1.length ≤ 1048576) (hl : ¬ bs0.length ≤ 1048576) : Calls Try.prog 11 #[.agg #[.int .i64 v0, s0], s1] w (RV (.bool true) w) := by
  have hsl0 := h0.slice
  have hbd0 := h0.2.1
  have hsz0 := szSystem_any v0 s0 bs0.length hsl0 (by omega) (1048576) (by omega) (by omega)
  rw [if_pos (by omega)] at hsz0
  have HSZ0 := Lib.hid hsz0
  have hsl1 := h1.slice
  have hd1 : decide ((1048576 : Int) < (zs1.length : Int)) = false := by simp; omega
  have hdn1 : decide (1048576 < zs1.length) = false := by simp; omega
  clear hl h0 h1 hsz0 hbd0
  obtain ⟨a0, c0, rfl⟩ := hsl0
  obtain ⟨a1, c1, rfl⟩ := hsl1
  go_enter Try.func11, Try.ntmps11
  go_wp2_with fail
  refine (HSZ0.out _).mono ?_
  rintro e y0 ⟨rfl, hy0⟩
  go_wp2
  go_ret
  exact RV_of rfl (((Below.refl _ _).alloc (by simp <;> omega) _).trans (hy0.mono (by first | (simp <;> omega) | (have := ((Below.refl _ _).alloc (by simp <;> omega) _).size; omega))))
theorem FnExactIsWord_any (v0 : Int) (s0 : Value) (bs0 : List Blk) (s1 : Value) (zs1 : List Int) (w : World) (h0 : InB w s0 bs0) (h1 : InZ w s1 zs1) : Calls Try.prog 11 #[.agg #[.int .i64 v0, s0], s1] w (RV (.bool true) w) := by
  by_cases hl1 : zs1.length ≤ 1048576
  case neg => exact FnExactIsWord_top1 v0 s0 bs0 s1 zs1 w h0 h1  hl1
  by_cases hs0 : bs0.length ≤ 1048576
  case neg => exact FnExactIsWord_long0 v0 s0 bs0 s1 zs1 w h0 h1 hl1  hs0
  exact FnExactIsWord_main v0 s0 bs0 s1 zs1 w h0 h1 hs0 hl1
end Go.Proofs.Ytahgialnhomefaa

namespace Go.Proofs.Ytahgialnhomefaa
set_option maxRecDepth 100000 in
noncomputable def iniP : { L : List Char // Try.prog.initOrder = String.ofList L } := ⟨_, by unfold Try.prog; rfl⟩
theorem iniL : Try.prog.initOrder.toList = iniP.1 := (congrArg String.toList iniP.2).trans String.toList_ofList
theorem words_cons (c : Char) (r : List Char) (h : c ≠ Char.ofNat 32) : wordsSigns (c :: r) = match wordsSigns r with | w :: ws => (c :: w) :: ws | [] => [[c]] := by
  rw [wordsSigns]
  all_goals first | rfl | exact h | (intro e; exact h e)
theorem words_word : ∀ (a b : List Char), (a.all fun c => c != Char.ofNat 32) = true → wordsSigns (a ++ Char.ofNat 32 :: b) = a :: wordsSigns b
  | [], b, _ => rfl
  | c :: a, b, h => by
    simp only [List.all_cons, Bool.and_eq_true, bne_iff_ne, ne_eq] at h
    rw [List.cons_append, words_cons _ _ h.1, words_word a b (by simpa using h.2)]
set_option maxRecDepth 100000 in
theorem split1 : iniP.1 = iniP.1.take 7 ++ Char.ofNat 32 :: iniP.1.drop 8 := by kernel_rfl
set_option maxRecDepth 100000 in
theorem split2 : iniP.1.drop 8 = (iniP.1.drop 8).take 64 ++ Char.ofNat 32 :: iniP.1.drop 73 := by kernel_rfl
set_option maxRecDepth 100000 in
theorem split3 : iniP.1.drop 73 = (iniP.1.drop 73).take 3 ++ Char.ofNat 32 :: iniP.1.drop 77 := by kernel_rfl
theorem isCut : (iniP.1.drop 73).take 3 = "cut".toList := by kernel_rfl
set_option maxRecDepth 100000 in
theorem isHead : ((iniP.1.take 7 == "harness".toList || iniP.1.take 7 == "ownmain".toList) && isSumSigns ((iniP.1.drop 8).take 64)) = true := by kernel_rfl
theorem wordsL : wordsSigns iniP.1 = iniP.1.take 7 :: (iniP.1.drop 8).take 64 :: "cut".toList :: wordsSigns (iniP.1.drop 77) := by
  rw [← isCut]
  conv => lhs; rw [split1]
  rw [words_word _ _ (by kernel_rfl)]
  conv => lhs; rw [split2]
  rw [words_word _ _ (by kernel_rfl)]
  conv => lhs; rw [split3]
  rw [words_word _ _ (by kernel_rfl)]
theorem behindL : behindMainWord (wordsSigns Try.prog.initOrder.toList) = "cut".toList :: wordsSigns (iniP.1.drop 77) := by
  rw [iniL, wordsL]
  unfold behindMainWord
  simp only [isHead, if_true]
theorem stripL (ws : List (List Char)) : stripLifts liftWords ("cut".toList :: ws) = ([], "cut".toList :: ws) := by kernel_rfl
section
variable (P : Program) (ws : List (List Char)) (h : behindMainWord (wordsSigns P.initOrder.toList) = "cut".toList :: ws)
include h
theorem head_of : P.headLifts = [] := by
  unfold Program.headLifts
  rw [h]
  simp only [stripL]
  kernel_rfl
theorem make_of : P.make = some .cut := by
  unfold Program.make
  rw [h, head_of P ws h]
  kernel_rfl
theorem lifts_of : P.liftsFinal = false := by
  unfold Program.liftsFinal
  rw [h, head_of P ws h]
  kernel_rfl
theorem enter_of (h1 : P.laysLater = false) (h2 : P.bearsReflect = false) (h3 : P.doorFits [] = true) : P.mayEnter = true := by
  unfold Program.mayEnter
  rw [h]
  simp only [stripL]
  rw [h1, h2, h3]
  kernel_rfl
end
theorem mayE : Try.pinned.checked.prog.mayEnter = true := enter_of _ _ behindL (by kernel_rfl) (by kernel_rfl) (by kernel_rfl)
theorem liftsF : Try.pinned.checked.prog.liftsFinal = false := lifts_of _ _ behindL
theorem makeF : Try.pinned.checked.prog.make = some .cut := make_of _ _ behindL
theorem both {a b : Bool} (h : a = true) (k : b = true) : (a && b) = true := by rw [h, k]; rfl
end Go.Proofs.Ytahgialnhomefaa


/- impl.DoubleSystem answers as the plain function dblF. -/
import Derived.Test.YtlchcnngikgjjaaDblP
import Derived.Test.YtlchcnngikgjjaaFull
import Derived.Test.YtlchcnngikgjjaaAppMany
import Derived.Test.YtlchcnngikgjjaaSrt3
import Derived.Test.YtlchcnngikgjjaaSpecTake
import Derived.Test.YtlchcnngikgjjaaThirdP
namespace Go.Proofs.Ytlchcnngikgjjaa
open Go.RowKit Go.Maps
def dblF (v : Int) (bs : List Blk) : Int × List Blk × Int :=
  if isSysImpl v bs then (if fullB v bs then (if 2 * v + 1 ≤ 15 then (2 * v + 1, sortB (dblL v bs), 0) else (0, [], 3)) else (0, [], 5)) else (0, [], 1)
def fullC (v : Int) (bs : List Blk) : Int := if isSysImpl v bs then (if fullB v bs then 0 else 5) else 1
theorem fullV_cases (v : Int) (bs : List Blk) : (fullV v bs = boolCode true 0 ∧ fullC v bs = 0) ∨ (fullV v bs = boolCode false 0 ∧ fullC v bs = 5) ∨ (fullV v bs = boolCode false 1 ∧ fullC v bs = 1) := by
  unfold fullV fullC
  cases isSysImpl v bs
  · right; right; simp
  · cases fullB v bs
    · right; left; simp
    · left; simp
set_option maxRecDepth 100000 in
theorem fullCode_one (B : Nat) (v : Int) (s : Value) (bs : List Blk) (w : World) (h : SB w s bs) (c0 : w.cell? ⟨B, 0, none⟩ = some (.int .i64 v)) (c1 : w.cell? ⟨B, 1, none⟩ = some s) :
    Calls Try.prog 86 #[.slice (some ⟨B, 0, none⟩) 1 1] w (RV (.int .i64 (fullC v bs)) w) := by
  have hs := h.slice
  have HI := Lib.hid (IsFull_any v s bs (w.alloc (.cells #[.int .i64 v, s] 26)) (h.below ((Below.refl _ _).alloc (Nat.le_refl _) _) (Nat.le_refl _)))
  clear h
  obtain ⟨a, c, rfl⟩ := hs
  rcases fullV_cases v bs with ⟨e1, e2⟩ | ⟨e1, e2⟩ | ⟨e1, e2⟩
  all_goals
    rw [e1] at HI
    rw [e2]
    unfold boolCode at HI
    clear e1 e2
    go_enter Try.func86, Try.ntmps86
    go_wp2
    refine wp_loop_rounds 2 ?_
    rw [rounds_succ]
    go_wp2_with (go_at_call 29; refine HI.out.mono ?_; rintro e w1 ⟨rfl, hb1⟩)
  · rw [rounds_succ]
    go_wp2
    go_ret
    exact RV_of rfl (((Below.refl _ _).alloc (Nat.le_refl _) _).trans (hb1.mono (by simp)))
  · rw [rounds_succ]
    go_wp2
    go_ret
    exact RV_of rfl (((Below.refl _ _).alloc (Nat.le_refl _) _).trans (hb1.mono (by simp)))
  · go_ret
    exact RV_of rfl (((Below.refl _ _).alloc (Nat.le_refl _) _).trans (hb1.mono (by simp)))
/-- Returns a slice of its own with these blocks. -/
def RO (bs : List Blk) (w : World) (e : Ending) (w' : World) : Prop := ∃ u, e = .returned u ∧ OwnR w' w.heap.size u bs ∧ Below w.heap.size w w'
set_option maxRecDepth 100000 in
/-- slices.Clone: the same blocks in memory of its own. -/
theorem cloneB_any (s : Value) (bs : List Blk) (w : World) (h : SX w s bs) (hl : bs.length ≤ 1100000) :
    Calls Try.prog 87 #[s] w (RO bs w) := by
  have hs : ∃ a c, s = .slice a bs.length c := by rcases h with ⟨a0, c0, rfl, rfl⟩ | ⟨b, off, cap, rfl, _⟩ <;> exact ⟨_, _, rfl⟩
  have HS := Lib.hid h
  clear h
  obtain ⟨a, c, rfl⟩ := hs
  cases a with
  | none =>
    have e : bs = [] := by
      rcases HS.out with ⟨_, _, _, h⟩ | ⟨b, off, cap, h, _⟩
      · exact h
      · cases h
    subst e
    have hq : ∀ w, (binOp .eql 24 (.slice none 0 c) (.slice none 0 0)).run Try.prog w = .ok (.bool true) w := fun _ => by kernel_rfl
    go_enter Try.func87, Try.ntmps87
    go_wp2
    go_ret
    exact ⟨_, rfl, OwnR.nil _ _, Below.refl _ _⟩
  | some ad =>
    have ho0 := lit_own w
    have HO0 := Lib.hid ho0
    clear ho0
    have hq : ∀ w, (binOp .eql 24 (.slice (some ad) bs.length c) (.slice none 0 0)).run Try.prog w = .ok (.bool false) w := fun _ => by kernel_rfl
    go_enter Try.func87, Try.ntmps87
    go_wp2_with (at_builtin; refine wpList_append_many rfl _ _ rfl w.heap.size (.slice (some ⟨w.heap.size, 0, none⟩) 0 0) [] rfl HO0.out (.slice (some ad) bs.length c) bs rfl (HS.out.below ((Below.refl _ _).alloc (Nat.le_refl _) _) (Nat.le_refl _)) (by simp; omega) (by simp) ?_; intro a' c' w' ho hg)
    go_ret
    exact ⟨_, rfl, by simpa using ho, ((Below.refl _ _).alloc (Nat.le_refl _) _).grown hg (by simp) (fun r e => by simp [Value.ownBlock] at e; omega)⟩
theorem sx_three (W : World) (x y z : Blk) (T : TypeId) : SX (W.alloc (.cells #[.int .i64 x.a, .int .i64 x.b, .int .i64 x.c, .int .i64 y.a, .int .i64 y.b, .int .i64 y.c, .int .i64 z.a, .int .i64 z.b, .int .i64 z.c] T)) (.slice (some ⟨W.heap.size, 0, none⟩) 3 3) [x, y, z] :=
  .inr ⟨W.heap.size, 0, 3, rfl, by simp, fun k hk => by
    match k, hk with
    | 0, _ => simp
    | 1, _ => simp
    | 2, _ => simp⟩
theorem dbl_bounds {v : Int} {x : Blk} (hg : goodB v x = true) (h15 : v ≤ 15) : 0 ≤ x.a ∧ x.a < x.b ∧ x.b < x.c ∧ x.c < v ∧ v ≤ 15 := by
  have := goodB_iff.1 hg
  omega
set_option maxRecDepth 100000 in
set_option maxHeartbeats 1000000 in
theorem DoubleSystem_any (v : Int) (s : Value) (bs : List Blk) (w : World) (h : SB w s bs) :
    Calls Try.prog 23 #[.agg #[.int .i64 v, s]] w (RSys (dblF v bs) w) := by
  have hs := h.slice
  have HSB := Lib.hid h
  have hlen := h.2.1
  have hF : ∀ W, Below w.heap.size w W → ∀ B, W.cell? ⟨B, 0, none⟩ = some (.int .i64 v) → W.cell? ⟨B, 1, none⟩ = some s → Calls Try.prog 86 #[.slice (some ⟨B, 0, none⟩) 1 1] W (RV (.int .i64 (fullC v bs)) W) := fun W hb B c0 c1 => fullCode_one B v s bs W (h.below hb (Nat.le_refl _)) c0 c1
  have HFC := Lib.hid hF
  clear h hF
  obtain ⟨a0, c0, rfl⟩ := hs
  obtain ⟨κ, hκ⟩ : ∃ κ, κ = fullC v bs := ⟨_, rfl⟩
  rw [← hκ] at HFC
  have H3 := Lib.hid (HFC.out (((w.alloc (.cells #[.int .i64 v, .slice a0 bs.length c0] 26)).alloc (.cells #[.int .i64 0, .slice none 0 0] 26)).alloc (.cells #[.int .i64 v, .slice a0 bs.length c0] 26)) ((below2 _ _ _ _).alloc (by simp; omega) _) (w.heap.size + 1 + 1) (by simp [go_sem]) (by simp [go_sem]))
  clear HFC
  by_cases h0 : κ = 0
  · have hi : isSysImpl v bs = true := by
      unfold fullC at hκ
      cases hi : isSysImpl v bs
      · rw [hi] at hκ; simp at hκ; omega
      · rfl
    have hf : fullB v bs = true := by
      unfold fullC at hκ
      rw [hi] at hκ
      cases hf : fullB v bs
      · rw [hf] at hκ; simp at hκ; omega
      · rfl
    subst h0
    clear hκ
    obtain ⟨hv3, hv15, _⟩ := sys_size hi
    by_cases h7 : 2 * v + 1 ≤ 15
    · have hval : dblF v bs = (2 * v + 1, sortB (dblL v bs), 0) := by simp [dblF, hi, hf, h7]
      rw [hval]
      have hgood := sys_good hi
      have HG := Lib.hid hgood
      have hb35 := (sys_size hi).2.2
      have hv0 : 0 ≤ v := by omega
      have hvn : (v.toNat : Int) = v := by omega
      clear hval hi hf hgood
      go_enter Try.func23, Try.ntmps23
      go_wp2_with fail
      refine H3.out.mono ?_
      rintro e w1 ⟨rfl, hb1⟩
      obtain ⟨p0, p1, d0, d1, f0, f1, hbw, hlt⟩ := boxes2 (((Below.refl _ _).alloc (Nat.le_refl _) _).trans (hb1.mono (by simp)))
      have HSB1 := Lib.hid (HSB.out.below hbw (Nat.le_refl _))
      clear hb1
      go_wp2_with fail
      refine (cloneB_any _ bs _ HSB1.out.sx hlen).mono ?_
      rintro e w2 ⟨u, rfl, ho2, hb2⟩
      obtain ⟨a2, n2, hu⟩ := ho2.form
      subst hu
      have hz2 := hb2.size
      have hlt1 : w.heap.size < w1.heap.size := by omega
      have HO2 := Lib.hid ho2
      have P0 := (hb2.cell (p := ⟨w.heap.size, 0, none⟩) hlt1).trans p0
      have P1 := (hb2.cell (p := ⟨w.heap.size, 1, none⟩) hlt1).trans p1
      clear ho2
      go_wp2_with fail
      go_loopw [6, 30] (fun o t wr => ∃ k : Nat, k ≤ bs.length ∧ t = .int .i64 k ∧ Below w1.heap.size w1 wr ∧ OwnR wr w1.heap.size o (dblA v bs k) ∧ ∃ a n c, o = .slice a n c) (fun _ t _ => bs.length - (intOf t).toNat)
      case atStart => exact ⟨0, Nat.zero_le _, rfl, hb2, by simpa [dblA] using HO2.out, _, _, _, rfl⟩
      case round =>
        obtain ⟨k, hk, rfl, hB, hO, a3, n3, c3, rfl⟩ := hrel
        have hz := hB.size
        have hz1 : w.heap.size < wr.heap.size := by omega
        have hz4 : w.heap.size + 1 < wr.heap.size := by omega
        have r0 := (hB.cell (p := ⟨w.heap.size, 0, none⟩) hlt1).trans p0
        have r1 := (hB.cell (p := ⟨w.heap.size, 1, none⟩) hlt1).trans p1
        have HO := Lib.hid hO
        clear hO
        by_cases hkl : k < bs.length
        · rcases HSB1.out.2.2 with ⟨_, _, _, hnil⟩ | ⟨b, off, cap, hv, hblt, hbl⟩
          · rw [hnil] at hkl; simp at hkl
          · simp at hv
            obtain ⟨rfl, rfl⟩ := hv
            have hz3 : b < wr.heap.size := by omega
            obtain ⟨x, hx, ex, x1, x2, x3⟩ := blks_at (hbl.below hB hblt) hkl
            obtain ⟨g1, g2, g3, g4, g5⟩ := dbl_bounds (HG.out x hx) hv15
            have hnx := dblA_succ (v := v) hkl ex
            have hal := dblA_len v bs hk
            obtain ⟨xa, xb, xc⟩ := x
            dsimp only at x1 x2 x3 g1 g2 g3 g4
            have HNX := Lib.hid hnx
            have HAL := Lib.hid hal
            have hl3 : (dblA v bs k).length ≤ 1000 := by rw [hal]; omega
            have e1 : 0 ≤ xb := by omega
            have e2 : 0 ≤ xc := by omega
            have e3 : xa ≤ 15 := by omega
            have e4 : xb ≤ 15 := by omega
            have e5 : xc ≤ 15 := by omega
            have S3 : SX ((wr.alloc (.cells #[.int .i64 xa, .int .i64 xb, .int .i64 xc] 62)).alloc (.cells #[.int .i64 xa, .int .i64 (v + xb), .int .i64 (v + xc), .int .i64 xb, .int .i64 (v + xa), .int .i64 (v + xc), .int .i64 xc, .int .i64 (v + xa), .int .i64 (v + xb)] 62)) (.slice (some ⟨wr.heap.size + 1, 0, none⟩) 3 3) (dblB v ⟨xa, xb, xc⟩) := by
              have := sx_three (wr.alloc (.cells #[.int .i64 xa, .int .i64 xb, .int .i64 xc] 62)) ⟨xa, v + xb, v + xc⟩ ⟨xb, v + xa, v + xc⟩ ⟨xc, v + xa, v + xb⟩ 62
              simp only [World.size_alloc] at this
              exact this
            clear hx ex hbl hnx hal
            go_wp2_with (at_builtin; refine wpList_append_many rfl _ _ rfl w1.heap.size (.slice a3 n3 c3) (dblA v bs k) rfl (by exact (HO.out.below ((Below.refl _ _).alloc (Nat.le_refl _) _) (Nat.le_refl _)).below ((Below.refl _ _).alloc (Nat.le_refl _) _) (Nat.le_refl _)) (.slice (some ⟨wr.heap.size + 1, 0, none⟩) 3 3) (dblB v ⟨xa, xb, xc⟩) rfl S3 (by simp [dblB]; omega) (by simp; omega) ?_; intro a' c' w4 hO4 hg4)
            have hrow := HO.out.row
            have hgo : wr.grownBy w4 (Value.slice a3 n3 c3).ownBlock := gb_trans (World.grownBy_alloc _ _ none) (gb_trans (World.grownBy_alloc _ _ none) hg4)
            clear hg4
            go_roundw
            case rel => exact ⟨k + 1, by omega, by go_num, hB.grown hgo hB.size (fun j e => hrow j e), by rw [HNX.out]; exact hO4, _, _, _, rfl⟩
            case measure => simp [intOf]; omega
        · have e : k = bs.length := by omega
          subst e
          go_wp2_with fail
          obtain ⟨wo, hwo⟩ : ∃ wo : World, wo = wr := ⟨_, rfl⟩
          rw [← hwo] at hB HO hz hz1 hz4 r0 r1 ⊢
          clear hwo
          have hal := dblA_len v bs (Nat.le_refl bs.length)
          have hal2 : (dblA v bs bs.length).length ≤ 1000 := by rw [hal]; omega
          clear hal
          go_loopw [6, 72] (fun o t wr => ∃ k : Nat, (k : Int) ≤ v ∧ t = .int .i64 k ∧ Below w1.heap.size w1 wr ∧ OwnR wr w1.heap.size o (dblA v bs bs.length ++ dblP v k) ∧ ∃ a n c, o = .slice a n c) (fun _ t _ => (v - intOf t).toNat)
          case atStart => exact ⟨0, by omega, rfl, hB, by simpa [dblP] using HO.out, _, _, _, rfl⟩
          case round =>
            obtain ⟨k, hk2, rfl, hB2, hO2, a5, n5, c5, rfl⟩ := hrel
            have hz5 := hB2.size
            have HO2' := Lib.hid hO2
            have hl5 : (dblA v bs bs.length ++ dblP v k).length ≤ 1100 := by rw [List.length_append, dblP_len]; omega
            clear hO2
            by_cases hkv : (k : Int) < v
            · have hsucc : dblA v bs bs.length ++ dblP v (k + 1) = (dblA v bs bs.length ++ dblP v k) ++ [⟨(k : Int), v + (k : Int), 2 * v⟩] := by rw [dblP_succ, List.append_assoc]
              obtain ⟨L, hL⟩ : ∃ L, L = dblA v bs bs.length ++ dblP v k := ⟨_, rfl⟩
              rw [← hL] at hsucc HO2' hl5
              have HS2 := Lib.hid hsucc
              clear hsucc hL
              go_wp2_with (at_builtin; refine wpList_append_blk rfl _ _ rfl w1.heap.size (.slice a5 n5 c5) L rfl (by exact HO2'.out.below ((Below.refl _ _).alloc (Nat.le_refl _) _) (Nat.le_refl _)) _ _ ⟨(k : Int), v + (k : Int), 2 * v⟩ rfl (by simp [go_sem]) (by simp [go_sem]) (by simp [go_sem]) (by omega) (by simp; omega) ?_; intro g' cap' w4 hO4 hg4)
              have hrow := HO2'.out.row
              have hgo : wr.grownBy w4 (Value.slice a5 n5 c5).ownBlock := gb_trans (World.grownBy_alloc _ _ none) hg4
              clear hg4
              go_roundw
              case rel => exact ⟨k + 1, by omega, by go_num, hB2.grown hgo hB2.size (fun j e => hrow j e), by rw [HS2.out]; exact hO4, _, _, _, rfl⟩
              case measure => simp [intOf]; omega
            · have e : k = v.toNat := by omega
              subst e
              have hdl : dblA v bs bs.length ++ dblP v v.toNat = dblL v bs := rfl
              rw [hdl] at HO2' hl5
              obtain ⟨E0, E1, G0, G1, K0, K1⟩ : Six wr w.heap.size v (.slice a0 bs.length c0) := keep6 (row := none) ⟨p0, p1, d0, d1, f0, f1⟩ (only_of_below hB2 none) (by simp)
              have hrow := HO2'.out.row
              have HROW := Lib.hid hrow
              clear hrow hdl E0 E1
              go_wp2_with fail
              refine (systemFrom_any (2 * v + 1) w1.heap.size (.slice a5 n5 c5) (dblL v bs) _ HO2'.out (by omega) hz5).mono ?_
              rintro e w5 ⟨rfl, ho5, hg5⟩
              have hr5 := fun r e => by have := HROW.out r e; omega
              have M0 := keep_cell G0 hg5 (fun r e => by have := HROW.out r e; omega)
              have M1 := keep_cell G1 hg5 (fun r e => by have := HROW.out r e; omega)
              have M2 := keep_frozen G0 K0 hg5 (fun r e => by have := HROW.out r e; omega)
              have M3 := keep_frozen G1 K1 hg5 (fun r e => by have := HROW.out r e; omega)
              have HB5 := Lib.hid ((hbw.trans (hB2.mono (by omega))).grown hg5 (by omega) (fun r e => by have := HROW.out r e; omega))
              have hz6 := hg5.size
              have HO5 := Lib.hid ho5.res
              clear hr5 ho5 hg5
              go_wp2
              exact bodyPost_ret (v := .tuple #[.agg #[.int .i64 (2 * v + 1), .slice a5 n5 c5], .int .i64 0]) (by simp [results, Try.results23, go_sem, *]) rfl ⟨_, rfl, (HO5.out.kept (gb_set2 w5 (w.heap.size + 1) (.int .i64 (2 * v + 1)) (.slice a5 n5 c5)) (fun r e => by cases e; exact .inl (by omega))).wide (by omega) (by simp [World.setCell]), below_set2 HB5.out (by omega) _ _⟩
    · have hval : dblF v bs = (0, [], 3) := by simp [dblF, hi, hf, h7]
      rw [hval]
      have h7' : 15 < 2 * v + 1 := by omega
      clear hval hi hf h7 HSB
      go_enter Try.func23, Try.ntmps23
      go_wp2_with fail
      refine H3.out.mono ?_
      rintro e w1 ⟨rfl, hb1⟩
      obtain ⟨p0, p1, d0, d1, f0, f1, hbw, hlt⟩ := boxes2 (((Below.refl _ _).alloc (Nat.le_refl _) _).trans (hb1.mono (by simp)))
      clear hb1
      go_wp2
      exact bodyPost_ret (v := .tuple #[.agg #[.int .i64 0, .slice none 0 0], .int .i64 3]) (by simp [results, Try.results23, go_sem, *]) rfl ⟨_, rfl, .inl ⟨rfl, _, _, rfl⟩, below_set2 hbw (by omega) _ _⟩
  · have hval : dblF v bs = (0, [], κ) := by
      unfold dblF
      unfold fullC at hκ
      cases hi : isSysImpl v bs
      · rw [hi] at hκ; simp at hκ; simp [hκ]
      · rw [hi] at hκ
        cases hf : fullB v bs
        · rw [hf] at hκ; simp at hκ; simp [hκ]
        · rw [hf] at hκ; simp at hκ; exact absurd hκ h0
    rw [hval]
    have hne : (κ != 0) = true := by simp [h0]
    clear hval hκ HSB h0
    go_enter Try.func23, Try.ntmps23
    go_wp2_with fail
    refine H3.out.mono ?_
    rintro e w1 ⟨rfl, hb1⟩
    obtain ⟨p0, p1, d0, d1, f0, f1, hbw, hlt⟩ := boxes2 (((Below.refl _ _).alloc (Nat.le_refl _) _).trans (hb1.mono (by simp)))
    clear hb1
    go_wp2
    exact bodyPost_ret (v := .tuple #[.agg #[.int .i64 0, .slice none 0 0], .int .i64 κ]) (by simp [results, Try.results23, go_sem, *]) rfl ⟨_, rfl, .inl ⟨rfl, _, _, rfl⟩, below_set2 hbw (by omega) _ _⟩
end Go.Proofs.Ytlchcnngikgjjaa

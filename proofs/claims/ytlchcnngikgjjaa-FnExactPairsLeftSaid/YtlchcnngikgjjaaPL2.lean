
/- PairsLeft: the program and the model answer alike. -/
import Derived.Test.YtlchcnngikgjjaaPL1
import Derived.Test.YtlchcnngikgjjaaSS4
import Derived.Test.YtlchcnngikgjjaaSpecIs
import Derived.Test.YtlchcnngikgjjaaSpecThird
namespace Go.Proofs.Ytlchcnngikgjjaa
open Go.RowKit Go.Maps
theorem both_pair {v : Int} {x : Blk} (hg : goodB v x = true) {a b : Int} (hab : a < b) : bothB a b x = true ↔ (a, b) ∈ pairsL x := by
  obtain ⟨h1, h2, h3, h4⟩ := goodB_iff.1 hg
  unfold bothB hasB pairsL
  simp only [Bool.and_eq_true, Bool.or_eq_true, decide_eq_true_iff, List.mem_cons, List.mem_nil_iff, or_false, Prod.mk.injEq]
  omega
theorem third_left {v : Int} {bs : List Blk} (hg : ∀ x ∈ bs, goodB v x = true) (hv : v ≤ 15) {a b : Int} (hab : a < b) :
    (notIn (bs.flatMap pairsL) a b = true → third1 bs a b = -1) ∧ (notIn (bs.flatMap pairsL) a b = false → 0 ≤ third1 bs a b ∧ third1 bs a b ≤ 15) := by
  unfold notIn third1
  cases hf : bs.find? (bothB a b) with
  | none =>
    have hn := List.find?_eq_none.1 hf
    have : ¬ (a, b) ∈ bs.flatMap pairsL := fun h => by
      obtain ⟨x, hx, hp⟩ := List.mem_flatMap.1 h
      exact hn x hx ((both_pair (hg x hx) hab).2 hp)
    simp [this]
  | some x =>
    have hx := List.mem_of_find?_eq_some hf
    have hb := List.find?_some hf
    have hin : (a, b) ∈ bs.flatMap pairsL := List.mem_flatMap.2 ⟨x, hx, (both_pair (hg x hx) hab).1 hb⟩
    have hne : a ≠ b := by omega
    have h3 := third_bounds (hg x hx) hv hb hne
    refine ⟨fun h => ?_, fun _ => h3⟩
    simp [hin] at h
set_option maxHeartbeats 1000000 in
theorem l01Left_any (vn : Nat) (s : Value) (bs : List Blk) (w : World) (h : SB w s bs) (hi : isSysImpl (vn : Int) bs = true) :
    Calls Try.prog 112 #[.agg #[.int .i64 (vn : Int), s]] w fun e w' => ∃ u gs caps, e = .returned u ∧ Below w.heap.size w w' ∧ AccS w' w.heap.size u (leftL (notIn (bs.flatMap pairsL)) vn vn).length gs caps (fnL (leftL (notIn (bs.flatMap pairsL)) vn vn)) := by
  have hs := h.slice
  obtain ⟨hv3, hv15, hb35⟩ := sys_size hi
  have hgood := sys_good hi
  have HT := Lib.hid fun W (hb : Below w.heap.size w W) a b ha ha' hb0 hb' => l01Third_any (vn : Int) s bs a b W (h.below hb (Nat.le_refl _)) hgood hv15 ha ha' hb0 hb'
  have HTL := Lib.hid fun a b (hab : a < b) => third_left (a := a) (b := b) hgood hv15 hab
  obtain ⟨seen, hseen⟩ : ∃ l, l = bs.flatMap pairsL := ⟨_, rfl⟩
  rw [← hseen] at HTL ⊢
  clear h hi hseen hgood
  obtain ⟨a0, c0, rfl⟩ := hs
  have hnw := AccS.new0 (w.alloc (.cells #[.int .i64 (vn : Int), .slice a0 bs.length c0] 26)) (fun _ => 0) (fun _ => 0) (fnL (leftL (notIn seen) vn 0)) (base := w.heap.size + 1) (by simp)
  rw [World.size_alloc] at hnw
  go_enter Try.func112, Try.ntmps112
  go_wp2_with fail
  obtain ⟨w2, hw2⟩ : ∃ w2, (w.alloc (.cells #[.int .i64 (vn : Int), .slice a0 bs.length c0] 26)).alloc (.cells #[] 36) = w2 := ⟨_, rfl⟩
  have hB0 : Below w.heap.size w w2 := by rw [← hw2]; exact ((Below.refl _ _).alloc (Nat.le_refl _) _).alloc (by simp) _
  have hz2 : w2.heap.size = w.heap.size + 1 + 1 := by rw [← hw2]; simp
  have hc1 : w2.cell? ⟨w.heap.size, 0, none⟩ = some (.int .i64 (vn : Int)) := by rw [← hw2]; exact cell_past (new_at 0 rfl) (by simp)
  have hc2 : w2.cell? ⟨w.heap.size, 1, none⟩ = some (.slice a0 bs.length c0) := by rw [← hw2]; exact cell_past (new_at 1 rfl) (by simp)
  rw [hw2] at hnw ⊢
  have HNW := Lib.hid hnw
  clear hw2 hnw
  go_loopw [3, 4] (fun o t wr => ∃ (k : Nat) (gs caps : Nat → Nat), k ≤ vn ∧ t = .int .i64 k ∧ Below (w.heap.size + 1) w2 wr ∧ AccS wr (w.heap.size + 1) o (leftL (notIn seen) vn k).length gs caps (fnL (leftL (notIn seen) vn k)) ∧ ∃ a c, o = .slice a (leftL (notIn seen) vn k).length c) (fun _ t _ => vn - (intOf t).toNat)
  case atStart => exact ⟨0, fun _ => 0, fun _ => 0, Nat.zero_le _, rfl, Below.refl _ _, HNW.out, _, _, rfl⟩
  case round =>
    obtain ⟨k, gs, caps, hk, rfl, hB, hA, a3, c3, rfl⟩ := hrel
    obtain ⟨W0, rfl⟩ : ∃ W0, W0 = wr := ⟨_, rfl⟩
    have hz := hB.size
    have r0 := (hB.cell (p := ⟨w.heap.size, 0, none⟩) (by simp)).trans hc1
    have hlen0 := leftL_len (notIn seen) vn k
    have hlenb : k * vn ≤ 225 := by
      have h1 : k * vn ≤ 15 * 15 := Nat.mul_le_mul (by omega) (by omega)
      omega
    have HA := Lib.hid hA
    clear hA
    by_cases hkl : k < vn
    · have g0 : (0 : Int) ≤ (k : Int) := by omega
      have g1 : (k : Int) < (vn : Int) := by omega
      go_wp2_with fail
      go_loopw [3, 5] (fun o t wx => ∃ (j : Nat) (gs caps : Nat → Nat), j ≤ vn - 1 - k ∧ t = .int .i64 ((k : Int) + 1 + j) ∧ Below (w.heap.size + 1) w2 wx ∧ AccS wx (w.heap.size + 1) o (leftL (notIn seen) vn k ++ rowL (notIn seen) k j).length gs caps (fnL (leftL (notIn seen) vn k ++ rowL (notIn seen) k j)) ∧ ∃ a c, o = .slice a (leftL (notIn seen) vn k ++ rowL (notIn seen) k j).length c) (fun _ t _ => (vn - intOf t).toNat)
      case atStart => exact ⟨0, gs, caps, Nat.zero_le _, by simp, hB, by simpa [rowL] using HA.out, a3, c3, by simp [rowL]⟩
      case round =>
        obtain ⟨j, gs', caps', hj, rfl, hb, hA', a4, c4, rfl⟩ := hrel
        have hzx := hb.size
        have s0 := (hb.cell (p := ⟨w.heap.size, 0, none⟩) (by simp)).trans hc1
        have s1 := (hb.cell (p := ⟨w.heap.size, 1, none⟩) (by simp)).trans hc2
        have hlen1 := rowL_len (notIn seen) k j
        obtain ⟨L, hL⟩ : ∃ L, L = leftL (notIn seen) vn k ++ rowL (notIn seen) k j := ⟨_, rfl⟩
        have hLl : L.length ≤ 1000 := by rw [hL, List.length_append]; omega
        have hsucc : leftL (notIn seen) vn k ++ rowL (notIn seen) k (j + 1) = L ++ if notIn seen (k : Int) ((k : Int) + 1 + j) then [((k : Int), (k : Int) + 1 + j)] else [] := by
          rw [hL, List.append_assoc]; rfl
        rw [← hL] at hA' ⊢
        have HSU := Lib.hid hsucc
        have HA' := Lib.hid hA'
        have HL := Lib.hid hL
        clear hA' hsucc hL
        by_cases hjl : (k : Int) + 1 + j < vn
        · have htl := HTL.out (k : Int) ((k : Int) + 1 + j) (by omega)
          have HT1 := Lib.hid (HT.out wr (hB0.trans (hb.mono (by omega))) (k : Int) ((k : Int) + 1 + j) (by omega) (by omega) (by omega) (by omega))
          obtain ⟨τ, hτ⟩ : ∃ τ, τ = third1 bs (k : Int) ((k : Int) + 1 + j) := ⟨_, rfl⟩
          rw [← hτ] at HT1 htl
          clear hτ
          cases hno : notIn seen (k : Int) ((k : Int) + 1 + j) with
          | false =>
            rw [hno] at htl
            obtain ⟨t0, t1⟩ := htl.2 rfl
            have e : leftL (notIn seen) vn k ++ rowL (notIn seen) k (j + 1) = L := by rw [HSU.out, hno]; simp
            have E := Lib.hid e
            clear e hno htl
            go_wp2_with (go_at_call 170; refine HT1.out.mono ?_; rintro e w3 ⟨rfl, hb3⟩)
            go_roundw
            case rel => exact ⟨j + 1, gs', caps', by omega, by go_num, hb.trans (hb3.mono (by omega)), by rw [E.out]; exact HA'.out.below hb3 (Nat.le_refl _), a4, c4, by rw [E.out]⟩
            case measure => simp [intOf]; omega
          | true =>
            rw [hno] at htl
            obtain rfl := htl.1 rfl
            have e : leftL (notIn seen) vn k ++ rowL (notIn seen) k (j + 1) = L ++ [((k : Int), (k : Int) + 1 + j)] := by rw [HSU.out, hno]; simp
            have E := Lib.hid e
            clear e hno htl
            go_wp2_with fail
            refine HT1.out.mono ?_
            rintro e w3 ⟨rfl, hb3⟩
            have hbx : Below (w.heap.size + 1) w2 w3 := hb.trans (hb3.mono (by omega))
            have hzx3 := hbx.size
            have hA3 := HA'.out.below hb3 (Nat.le_refl _)
            have hrow : OwnAtI (w3.alloc (.cells #[.int .i64 (k : Int), .int .i64 ((k : Int) + 1 + j)] 2)) w3.heap.size (fnL (L ++ [((k : Int), (k : Int) + 1 + j)]) L.length) := by
              rw [fnL_at]; exact two_own w3 _ _ _
            have HROW := Lib.hid hrow
            have hlt := ownsRow_lt hA3.own
            have HACC := Lib.hid (hA3.congr (F' := fnL (L ++ [((k : Int), (k : Int) + 1 + j)])) (fun q hq => fnL_lt hq))
            have HGT := Lib.hid (show ∀ q, q < L.length → gs' q < w3.heap.size from fun q hq => (hA3.row q hq).lt)
            have HNG := Lib.hid (show (Value.slice a4 L.length c4).ownBlock ≠ some w3.heap.size from fun e => by have := hlt _ e; omega)
            have HLOW := Lib.hid (show ∀ r, (Value.slice a4 L.length c4).ownBlock = some r → w.heap.size + 1 ≤ r from fun r e => (hlt r e).1)
            clear hrow hlt hA3
            go_wp2_with (at_builtin; refine wpList_append_row rfl _ _ rfl (w.heap.size + 1) _ L.length gs' caps' (fnL (L ++ [((k : Int), (k : Int) + 1 + j)])) rfl (HACC.out.below (((Below.refl _ _).alloc (Nat.le_refl _) _).alloc (by simp) _) (Nat.le_refl _)) _ _ rfl w3.heap.size 2 (by rw [fnL_len]; simp [go_sem]) (HROW.out.kept (World.grownBy_alloc _ _ none) (by simp)) HGT.out HNG.out (by omega) (by omega) (by simp; omega) ?_; intro G cap w4 gs4 caps4 hA4 hg4)
            have hB4 := ((hbx.alloc (by omega) (.cells #[.int .i64 (k : Int), .int .i64 ((k : Int) + 1 + j)] 2)).alloc (by simp; omega) (.cells #[.slice (some ⟨w3.heap.size, 0, none⟩) 2 2] 36)).grown hg4 (by simp; omega) HLOW.out
            go_roundw
            case rel => exact ⟨j + 1, gs4, caps4, by omega, by go_num, hB4, by rw [E.out, List.length_append, List.length_singleton]; exact hA4, _, _, by rw [E.out, List.length_append, List.length_singleton]⟩
            case measure => simp [intOf]; omega
        · have ej : j = vn - 1 - k := by omega
          have e : leftL (notIn seen) vn (k + 1) = L := by rw [HL.out, ej]; rfl
          have E := Lib.hid e
          clear e
          go_wp2_with fail
          go_roundw
          case rel => exact ⟨k + 1, gs', caps', by omega, by go_num, hb, by rw [E.out]; exact HA'.out, a4, c4, by rw [E.out]⟩
          case measure => simp [intOf]; omega
    · have e : k = vn := by omega
      subst e
      go_wp2
      go_ret
      exact ⟨_, gs, caps, rfl, hB0.trans (hB.mono (by omega)), HA.out.base (by omega)⟩
def pairsF (v : Int) (bs : List Blk) : List (Int × Int) × Int := if isSysImpl v bs then (leftL (notIn (bs.flatMap pairsL)) v.toNat v.toNat, 0) else ([], 1)
/-- A result that is a list of rows: empty anywhere, or memory of its own from lo on. -/
def ResSS (w : World) (lo : Nat) (u : Value) (n : Nat) (F : Nat → List Int) : Prop := (n = 0 ∧ ∃ a c, u = .slice a 0 c) ∨ ∃ G cap gs caps, u = .slice (some ⟨G, 0, none⟩) n cap ∧ lo ≤ G ∧ SSR w lo G gs caps n F
theorem AccS.res {w : World} {base : Nat} {u : Value} {n : Nat} {gs caps : Nat → Nat} {F : Nat → List Int} (h : AccS w base u n gs caps F) : ResSS w base u n F := by
  by_cases h0 : n = 0
  · subst h0
    rcases h.own.2 with ⟨rfl, _⟩ | ⟨g, cap, cur, rfl, _⟩
    · exact .inl ⟨rfl, _, _, rfl⟩
    · exact .inl ⟨rfl, _, _, rfl⟩
  · obtain ⟨G, cap, hu, hG, hS⟩ := h.ssr (by omega)
    exact .inr ⟨G, cap, gs, caps, hu, hG, hS⟩
def RPL (r : List (Int × Int) × Int) (w : World) (e : Ending) (w' : World) : Prop := ∃ u, e = .returned (.tuple #[u, .int .i64 r.2]) ∧ Below w.heap.size w w' ∧ ResSS w' w.heap.size u r.1.length (fnL r.1)
set_option maxRecDepth 100000 in
theorem PairsLeft_any (v : Int) (s : Value) (bs : List Blk) (w : World) (h : SB w s bs) : Calls Try.prog 48 #[.agg #[.int .i64 v, s]] w (RPL (pairsF v bs) w) := by
  cases hi : isSysImpl v bs with
  | true =>
    obtain ⟨hv3, hv15, _⟩ := sys_size hi
    have ev : v = ((v.toNat : Nat) : Int) := by omega
    have hval : pairsF v bs = (leftL (notIn (bs.flatMap pairsL)) v.toNat v.toNat, 0) := by simp [pairsF, hi]
    rw [hval]
    rw [ev] at hi
    have := PairsLeft_main v.toNat s bs w h hi
    rw [← ev] at this
    refine this.mono ?_
    rintro e w' ⟨u, gs, caps, rfl, hB, hA⟩
    exact ⟨u, rfl, hB, hA.res⟩
  | false =>
    have hval : pairsF v bs = ([], 1) := by simp [pairsF, hi]
    rw [hval]
    have hs := h.slice
    have HI := Lib.hid fun W (hb : Below w.heap.size w W) => IsSystem_any v s bs W (h.below hb (Nat.le_refl _))
    rw [hi] at HI
    clear h hi hval
    obtain ⟨a0, c0, rfl⟩ := hs
    go_enter Try.func48, Try.ntmps48
    go_wp2_with (go_at_call 99; refine (HI.out _ ((Below.refl _ _).alloc (Nat.le_refl _) _)).mono ?_; rintro e w1 ⟨rfl, hb1⟩)
    go_ret2
    exact ⟨_, rfl, below_new hb1, .inl ⟨rfl, _, _, rfl⟩⟩
set_option maxRecDepth 100000 in
theorem specPairsLeft_any (v : Int) (s : Value) (bs : List Blk) (w : World) (h : SB w s bs) : Calls Try.prog 47 #[.agg #[.int .i64 v, s]] w (RPL (pairsF v bs) w) := by
  cases hi : isSysImpl v bs with
  | true =>
    obtain ⟨hv3, hv15, _⟩ := sys_size hi
    have ev : v = ((v.toNat : Nat) : Int) := by omega
    have hval : pairsF v bs = (leftL (notIn (bs.flatMap pairsL)) v.toNat v.toNat, 0) := by simp [pairsF, hi]
    rw [hval]
    have hs := h.slice
    have HI := Lib.hid fun W (hb : Below w.heap.size w W) => l01Is_any v s bs W (h.below hb (Nat.le_refl _))
    have hL := fun W (hb : Below w.heap.size w W) => l01Left_any v.toNat s bs W (h.below hb (Nat.le_refl _)) (by rw [← ev]; exact hi)
    rw [← ev] at hL
    have HL := Lib.hid hL
    rw [hi] at HI
    clear h hi hval hL ev
    obtain ⟨a0, c0, rfl⟩ := hs
    go_enter Try.func47, Try.ntmps47
    go_wp2_with fail
    refine (HI.out _ ((Below.refl _ _).alloc (Nat.le_refl _) _)).mono ?_
    rintro e w1 ⟨rfl, hb1⟩
    have q0 := cell_new hb1 0 rfl
    have q1 := cell_new hb1 1 rfl
    have hbw := below_new hb1
    clear hb1
    go_wp2_with fail
    refine (HL.out _ hbw).mono ?_
    rintro e w2 ⟨u, gs, caps, rfl, hb2, hA⟩
    go_wp2
    go_ret2
    exact ⟨_, rfl, hbw.trans (hb2.mono hbw.size), (hA.base hbw.size).res⟩
  | false =>
    have hval : pairsF v bs = ([], 1) := by simp [pairsF, hi]
    rw [hval]
    have hs := h.slice
    have HI := Lib.hid fun W (hb : Below w.heap.size w W) => l01Is_any v s bs W (h.below hb (Nat.le_refl _))
    rw [hi] at HI
    clear h hi hval
    obtain ⟨a0, c0, rfl⟩ := hs
    go_enter Try.func47, Try.ntmps47
    go_wp2_with (go_at_call 89; refine (HI.out _ ((Below.refl _ _).alloc (Nat.le_refl _) _)).mono ?_; rintro e w1 ⟨rfl, hb1⟩)
    go_ret2
    exact ⟨_, rfl, below_new hb1, .inl ⟨rfl, _, _, rfl⟩⟩
end Go.Proofs.Ytlchcnngikgjjaa

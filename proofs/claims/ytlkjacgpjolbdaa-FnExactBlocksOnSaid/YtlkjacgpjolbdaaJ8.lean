
/- The program's PairsLeft. The model's BlocksOn, its second part. What a law over two systems knows of the memory between two of its steps. What a law over one system whose result is a list of integers knows of the memory between two of its steps. impl.SquareOf makes the square of its number. The model's squares. -/
import Derived.Test.YtlkjacgpjolbdaaJ7
namespace Go.Proofs.Ytlkjacgpjolbdaa
open Go.RowKit Go.Maps
/-- The pairs (a, b), b among the next n, that P lets through; then those of the rows before a. -/
def rowL (P : Int → Int → Bool) (a : Nat) : Nat → List (Int × Int)
  | 0 => []
  | n + 1 => rowL P a n ++ if P a ((a : Int) + 1 + n) then [((a : Int), (a : Int) + 1 + n)] else []
def leftL (P : Int → Int → Bool) (v : Nat) : Nat → List (Int × Int)
  | 0 => []
  | a + 1 => leftL P v a ++ rowL P a (v - 1 - a)
theorem rowL_len (P : Int → Int → Bool) (a n : Nat) : (rowL P a n).length ≤ n := by
  induction n with
  | zero => simp [rowL]
  | succ n ih =>
    unfold rowL
    rw [List.length_append]
    split <;> simp <;> omega
theorem leftL_len (P : Int → Int → Bool) (v a : Nat) : (leftL P v a).length ≤ a * v := by
  induction a with
  | zero => simp [leftL]
  | succ a ih =>
    unfold leftL
    rw [List.length_append, Nat.succ_mul]
    have := rowL_len P a (v - 1 - a)
    omega
theorem rowL_congr {P Q : Int → Int → Bool} {a : Nat} : ∀ n : Nat, (∀ b : Int, (a : Int) < b → b ≤ a + n → P a b = Q a b) → rowL P a n = rowL Q a n
  | 0, _ => rfl
  | n + 1, h => by
    unfold rowL
    rw [rowL_congr n (fun b h1 h2 => h b h1 (by omega)), h ((a : Int) + 1 + n) (by omega) (by omega)]
theorem leftL_congr {P Q : Int → Int → Bool} {v : Nat} : ∀ a : Nat, a ≤ v → (∀ a' b : Int, 0 ≤ a' → a' < b → b < v → P a' b = Q a' b) → leftL P v a = leftL Q v a
  | 0, _, _ => rfl
  | a + 1, ha, h => by
    unfold leftL
    rw [leftL_congr a (by omega) h, rowL_congr _ (fun b h1 h2 => h a b (by omega) h1 (by omega))]
def fnL (L : List (Int × Int)) (k : Nat) : List Int := let p := L[k]?.getD (0, 0); [p.1, p.2]
theorem fnL_len (L : List (Int × Int)) (k : Nat) : (fnL L k).length = 2 := rfl
theorem fnL_lt {L L' : List (Int × Int)} {k : Nat} (h : k < L.length) : fnL L k = fnL (L ++ L') k := by
  unfold fnL
  rw [List.getElem?_append_left h]
theorem fnL_at (L : List (Int × Int)) (p : Int × Int) : fnL (L ++ [p]) L.length = [p.1, p.2] := by simp [fnL]
theorem AccS.congr {w : World} {base : Nat} {u : Value} {n : Nat} {gs caps : Nat → Nat} {F F' : Nat → List Int} (h : AccS w base u n gs caps F) (e : ∀ k, k < n → F k = F' k) : AccS w base u n gs caps F' := by
  refine ⟨?_, fun k hk => by rw [← e k hk]; exact h.row k hk, h.ne, h.inc, h.low⟩
  have he : (List.range n).map (rowV gs caps F') = (List.range n).map (rowV gs caps F) := map_congr' fun k hk => by
    have := e k (List.mem_range.1 hk)
    simp [rowV, this]
  rw [he]
  exact h.own
theorem AccS.base {w : World} {base base' : Nat} {u : Value} {n : Nat} {gs caps : Nat → Nat} {F : Nat → List Int} (h : AccS w base u n gs caps F) (hb : base' ≤ base) : AccS w base' u n gs caps F :=
  ⟨ownsRow_base h.own hb, h.row, h.ne, h.inc, fun k hk => Nat.le_trans hb (h.low k hk)⟩
theorem wf_pl {n : Int} (h0 : 0 ≤ n) (h1 : n ≤ 1000) : WF n := by
  have : n = wrap64 n := by unfold wrap64; omega
  unfold WF
  rw [this]
  exact wrap64_wf _
def notIn (seen : List (Int × Int)) (a b : Int) : Bool := !decide ((a, b) ∈ seen)
theorem two_own (w : World) (x y : Int) (T : TypeId) : OwnAtI (w.alloc (.cells #[.int .i64 x, .int .i64 y] T)) w.heap.size [x, y] := by
  refine ⟨by simp, fun k hk => ?_, fun o => by simp⟩
  rw [World.cell?_alloc_at _ _ _ _ rfl]
  match k, hk with
  | 0, _ => rfl
  | 1, _ => rfl
end Go.Proofs.Ytlkjacgpjolbdaa

namespace Go.Proofs.Ytlkjacgpjolbdaa
open Go.RowKit Go.Maps
set_option maxRecDepth 100000 in
set_option maxHeartbeats 1000000 in
theorem l01On_any (v : Int) (s : Value) (bs : List Blk) (t : Value) (pts : List Int) (w : World) (h : SB w s bs) (ht : IB w t pts) (hb35 : bs.length ≤ 35) :
    Calls Try.prog 76 #[.agg #[.int .i64 v, s], t] w fun e w' => ∃ u, e = .returned (.agg #[.int .i64 pts.length, u]) ∧ ResR w' w.heap.size w'.heap.size u (sortB (bs.filterMap (onB pts))) ∧ Below w.heap.size w w' := by
  have hs := h.slice
  have HSB := Lib.hid h
  have htl := ht.1
  have hts : ∃ a c, t = .slice a pts.length c := by rcases ht.2 with ⟨a, c, rfl, rfl⟩ | ⟨b, off, cap, rfl, _⟩ <;> exact ⟨_, _, rfl⟩
  have HT := Lib.hid ht
  clear h ht
  obtain ⟨a0, c0, rfl⟩ := hs
  obtain ⟨a1, c1, rfl⟩ := hts
  go_enter Try.func76, Try.ntmps76
  go_wp2_with fail
  obtain ⟨w2, hw2⟩ : ∃ w2, ((w.alloc (.cells #[.int .i64 v, .slice a0 bs.length c0] 28)).alloc (.cells #[.int .i64 0, .slice none 0 0] 28)) = w2 := ⟨_, rfl⟩
  have hsix : Six w2 w.heap.size v (.slice a0 bs.length c0) := by
    rw [← hw2]
    refine ⟨?_, ?_, ?_, ?_, ?_, ?_⟩ <;> simp [go_sem]
  have hbw2 : Below w.heap.size w w2 := by rw [← hw2]; exact ((Below.refl _ _).alloc (Nat.le_refl _) _).alloc (by simp) _
  have hz2 : w2.heap.size = w.heap.size + 1 + 1 := by rw [← hw2]; simp
  rw [hw2]
  clear hw2
  have HO0 := Lib.hid (lit_own w2)
  rw [hz2] at HO0
  have HB3 : Hid (Below w2.heap.size w2 (w2.alloc (.cells #[] 70))) := Lib.hid ((Below.refl _ _).alloc (Nat.le_refl _) _)
  have HSIX := Lib.hid hsix
  obtain ⟨p0, p1, _, _, _, _⟩ := hsix
  have HSX := Lib.hid (HSB.out.below hbw2 (Nat.le_refl _)).sx
  have HT2 := Lib.hid (HT.out.below hbw2 (Nat.le_refl _))
  have HZ2 := Lib.hid hz2
  have hlt2 : w.heap.size + 1 < w2.heap.size := by omega
  have hlt3 : w.heap.size < w2.heap.size := by omega
  clear hz2
  go_loopw [5, 6] (fun o t wr => ∃ k : Nat, k ≤ bs.length ∧ t = .int .i64 k ∧ Below w2.heap.size w2 wr ∧ OwnR wr w2.heap.size o ((bs.take k).filterMap (onB pts)) ∧ ∃ a n c, o = .slice a n c) (fun _ t _ => bs.length - (intOf t).toNat)
  case atStart => exact ⟨0, Nat.zero_le _, rfl, HB3.out, by rw [HZ2.out]; exact HO0.out, _, _, _, rfl⟩
  case round =>
    obtain ⟨k, hk, rfl, hB, hO, a5, n5, c5, rfl⟩ := hrel
    have hz := hB.size
    have HO5 := Lib.hid hO
    clear hO
    have r0 := (hB.cell (p := ⟨w.heap.size, 0, none⟩) hlt3).trans p0
    have r1 := (hB.cell (p := ⟨w.heap.size, 1, none⟩) hlt3).trans p1
    by_cases hkl : k < bs.length
    · rcases HSX.out with ⟨_, _, _, hnil⟩ | ⟨b, off, cap, hv, hblt, hbl⟩
      · rw [hnil] at hkl; simp at hkl
      simp at hv
      obtain ⟨rfl, rfl⟩ := hv
      have hz4 : b < wr.heap.size := by omega
      obtain ⟨x, hx, ex, x1, x2, x3⟩ := blks_at (hbl.below hB hblt) hkl
      have i0 : (0 : Int) ≤ (k : Int) := by omega
      have i1 : (k : Int) < (bs.length : Int) := by omega
      have hl3 : ((bs.take k).filterMap (onB pts)).length ≤ 1000 := Nat.le_trans (List.length_filterMap_le _ _) (by simp; omega)
      have hsucc := filterMap_take (pts := pts) hkl ex
      obtain ⟨L, hL⟩ : ∃ L, L = (bs.take k).filterMap (onB pts) := ⟨_, rfl⟩
      rw [← hL] at HO5 hsucc hl3
      have HSU := Lib.hid hsucc
      have HT4 := Lib.hid (HT2.out.below hB (Nat.le_refl _))
      obtain ⟨xa, xb, xc⟩ := x
      dsimp only at x1 x2 x3
      have HPX := Lib.hid fun x W (hI : IB W (.slice a1 pts.length c1) pts) => l01Place_any _ pts x W hI
      clear hx ex hbl hsucc hL
      by_cases pa : 0 ≤ place pts xa
      · by_cases pb : 0 ≤ place pts xb
        · by_cases pc : 0 ≤ place pts xc
          · have hon : onB pts ⟨xa, xb, xc⟩ = some ⟨place pts xa, place pts xb, place pts xc⟩ := by unfold onB; rw [if_pos ⟨pa, pb, pc⟩]
            rw [hon] at HSU
            have qa : decide (0 ≤ place pts xa) = true := by simpa using pa
            have qb : decide (0 ≤ place pts xb) = true := by simpa using pb
            have qc : decide (0 ≤ place pts xc) = true := by simpa using pc
            clear hon
            go_wp2_with fail
            obtain ⟨W1, hW1⟩ : ∃ W1, (wr.alloc (.cells #[.int .i64 xa, .int .i64 xb, .int .i64 xc] 70)) = W1 := ⟨_, rfl⟩
            have z0 : W1.cell? ⟨wr.heap.size, 0, none⟩ = some (.int .i64 xa) := by rw [← hW1]; simp [go_sem]
            have z1 : W1.cell? ⟨wr.heap.size, 1, none⟩ = some (.int .i64 xb) := by rw [← hW1]; simp [go_sem]
            have z2 : W1.cell? ⟨wr.heap.size, 2, none⟩ = some (.int .i64 xc) := by rw [← hW1]; simp [go_sem]
            have hB1 : Below wr.heap.size wr W1 := by rw [← hW1]; exact (Below.refl _ _).alloc (Nat.le_refl _) _
            have HT5 := Lib.hid (HT4.out.below hB1 (Nat.le_refl _))
            rw [hW1]
            clear hW1
            go_quiet ((go_at_call 125; exact RS.quiet (HPX.out _ _ (HT5.out.below (below_drewN (Below.refl _ _) _) (Nat.le_refl _)))))
            have hB4 := below_drewN hB1 nq
            have hB5 := hB.trans (hB4.mono hz)
            obtain ⟨W2, hW2⟩ : ∃ W2, W1.drewN nq = W2 := ⟨_, rfl⟩
            rw [hW2] at hB4 hB5 ⊢
            clear hW2 z0 z1 z2 hB1 HT5 x1 x2 x3 r0 r1
            have hz5 := hB5.size
            have HO6 := Lib.hid (HO5.out.below hB4 (Nat.le_refl _))
            go_wp2_with (at_builtin; refine wpList_append_blk rfl _ _ rfl w2.heap.size (.slice a5 n5 c5) L rfl (by exact HO6.out.below ((Below.refl _ _).alloc (Nat.le_refl _) _) (Nat.le_refl _)) _ _ ⟨place pts xa, place pts xb, place pts xc⟩ rfl (by simp [go_sem]) (by simp [go_sem]) (by simp [go_sem]) (by omega) (by simp; omega) ?_; intro g' cap' w4 hO4 hg4)
            have hB7 := (hB5.alloc hz5 _).grown hg4 (by simp; omega) (fun r e => HO6.out.row r e)
            go_roundw
            case rel => exact ⟨k + 1, by omega, by go_num, hB7, by rw [HSU.out]; exact hO4, _, _, _, rfl⟩
            case measure => simp [intOf]; omega
          · have hon : onB pts ⟨xa, xb, xc⟩ = none := by unfold onB; rw [if_neg]; rintro ⟨g1, g2, g3⟩; exact pc g3
            rw [hon] at HSU
            have qa : decide (0 ≤ place pts xa) = true := by simpa using pa
            have qb : decide (0 ≤ place pts xb) = true := by simpa using pb
            have qc : decide (0 ≤ place pts xc) = false := by simpa using pc
            clear hon
            go_wp2_with fail
            obtain ⟨W1, hW1⟩ : ∃ W1, (wr.alloc (.cells #[.int .i64 xa, .int .i64 xb, .int .i64 xc] 70)) = W1 := ⟨_, rfl⟩
            have z0 : W1.cell? ⟨wr.heap.size, 0, none⟩ = some (.int .i64 xa) := by rw [← hW1]; simp [go_sem]
            have z1 : W1.cell? ⟨wr.heap.size, 1, none⟩ = some (.int .i64 xb) := by rw [← hW1]; simp [go_sem]
            have z2 : W1.cell? ⟨wr.heap.size, 2, none⟩ = some (.int .i64 xc) := by rw [← hW1]; simp [go_sem]
            have hB1 : Below wr.heap.size wr W1 := by rw [← hW1]; exact (Below.refl _ _).alloc (Nat.le_refl _) _
            have HT5 := Lib.hid (HT4.out.below hB1 (Nat.le_refl _))
            rw [hW1]
            clear hW1
            go_quiet ((go_at_call 125; exact RS.quiet (HPX.out _ _ (HT5.out.below (below_drewN (Below.refl _ _) _) (Nat.le_refl _)))))
            go_wp2
            have hB4 := below_drewN hB1 nq
            go_roundw
            case rel => exact ⟨k + 1, by omega, by go_num, hB.trans (hB4.mono hz), by rw [HSU.out]; simpa using HO5.out.below hB4 (Nat.le_refl _), _, _, _, rfl⟩
            case measure => simp [intOf]; omega
        · have hon : onB pts ⟨xa, xb, xc⟩ = none := by unfold onB; rw [if_neg]; rintro ⟨g1, g2, g3⟩; exact pb g2
          rw [hon] at HSU
          have qa : decide (0 ≤ place pts xa) = true := by simpa using pa
          have qb : decide (0 ≤ place pts xb) = false := by simpa using pb
          clear hon
          go_wp2_with fail
          obtain ⟨W1, hW1⟩ : ∃ W1, (wr.alloc (.cells #[.int .i64 xa, .int .i64 xb, .int .i64 xc] 70)) = W1 := ⟨_, rfl⟩
          have z0 : W1.cell? ⟨wr.heap.size, 0, none⟩ = some (.int .i64 xa) := by rw [← hW1]; simp [go_sem]
          have z1 : W1.cell? ⟨wr.heap.size, 1, none⟩ = some (.int .i64 xb) := by rw [← hW1]; simp [go_sem]
          have z2 : W1.cell? ⟨wr.heap.size, 2, none⟩ = some (.int .i64 xc) := by rw [← hW1]; simp [go_sem]
          have hB1 : Below wr.heap.size wr W1 := by rw [← hW1]; exact (Below.refl _ _).alloc (Nat.le_refl _) _
          have HT5 := Lib.hid (HT4.out.below hB1 (Nat.le_refl _))
          rw [hW1]
          clear hW1
          go_quiet ((go_at_call 125; exact RS.quiet (HPX.out _ _ (HT5.out.below (below_drewN (Below.refl _ _) _) (Nat.le_refl _)))))
          go_wp2
          have hB4 := below_drewN hB1 nq
          go_roundw
          case rel => exact ⟨k + 1, by omega, by go_num, hB.trans (hB4.mono hz), by rw [HSU.out]; simpa using HO5.out.below hB4 (Nat.le_refl _), _, _, _, rfl⟩
          case measure => simp [intOf]; omega
      · have hon : onB pts ⟨xa, xb, xc⟩ = none := by unfold onB; rw [if_neg]; rintro ⟨g1, g2, g3⟩; exact pa g1
        rw [hon] at HSU
        have qa : decide (0 ≤ place pts xa) = false := by simpa using pa
        clear hon
        go_wp2_with fail
        obtain ⟨W1, hW1⟩ : ∃ W1, (wr.alloc (.cells #[.int .i64 xa, .int .i64 xb, .int .i64 xc] 70)) = W1 := ⟨_, rfl⟩
        have z0 : W1.cell? ⟨wr.heap.size, 0, none⟩ = some (.int .i64 xa) := by rw [← hW1]; simp [go_sem]
        have z1 : W1.cell? ⟨wr.heap.size, 1, none⟩ = some (.int .i64 xb) := by rw [← hW1]; simp [go_sem]
        have z2 : W1.cell? ⟨wr.heap.size, 2, none⟩ = some (.int .i64 xc) := by rw [← hW1]; simp [go_sem]
        have hB1 : Below wr.heap.size wr W1 := by rw [← hW1]; exact (Below.refl _ _).alloc (Nat.le_refl _) _
        have HT5 := Lib.hid (HT4.out.below hB1 (Nat.le_refl _))
        rw [hW1]
        clear hW1
        go_quiet ((go_at_call 125; exact RS.quiet (HPX.out _ _ (HT5.out.below (below_drewN (Below.refl _ _) _) (Nat.le_refl _)))))
        go_wp2
        have hB4 := below_drewN hB1 nq
        go_roundw
        case rel => exact ⟨k + 1, by omega, by go_num, hB.trans (hB4.mono hz), by rw [HSU.out]; simpa using HO5.out.below hB4 (Nat.le_refl _), _, _, _, rfl⟩
        case measure => simp [intOf]; omega
    · have e : k = bs.length := by omega
      subst e
      rw [List.take_length] at HO5
      have i1 : decide ((bs.length : Int) < (bs.length : Int)) = false := by simp
      obtain ⟨L, hL⟩ : ∃ L, L = bs.filterMap (onB pts) := ⟨_, rfl⟩
      have hLl : L.length ≤ 100000 := by rw [hL]; exact Nat.le_trans (List.length_filterMap_le _ _) (by omega)
      rw [← hL] at HO5
      have HLL := Lib.hid hL
      have HMK := Lib.hid (l01Made_any (pts.length : Int) (.slice a5 n5 c5) L wr HO5.out.sx hLl)
      obtain ⟨e0, e1, k0, k1⟩ := HSIX.out.2.2
      have f0 := (hB.cell (p := ⟨w.heap.size + 1, 0, none⟩) hlt2).trans e0
      have f1 := (hB.cell (p := ⟨w.heap.size + 1, 1, none⟩) hlt2).trans e1
      have f2 := (hB.frozen (p := ⟨w.heap.size + 1, 0, none⟩) hlt2).trans k0
      have f3 := (hB.frozen (p := ⟨w.heap.size + 1, 1, none⟩) hlt2).trans k1
      have hzz : w.heap.size + 1 < wr.heap.size := by omega
      clear e0 e1 k0 k1 hL
      go_wp2_with fail
      refine HMK.out.mono ?_
      rintro e w3 ⟨u, rfl, hres, hb3⟩
      obtain ⟨aq, cq, hu⟩ := hres.slice
      obtain ⟨nq9, hnq⟩ : ∃ n, n = (sortB L).length := ⟨_, rfl⟩
      rw [← hnq] at hu
      subst hu
      clear hnq
      have g0 := (hb3.cell (p := ⟨w.heap.size + 1, 0, none⟩) hzz).trans f0
      have g1 := (hb3.cell (p := ⟨w.heap.size + 1, 1, none⟩) hzz).trans f1
      have g2 := (hb3.frozen (p := ⟨w.heap.size + 1, 0, none⟩) hzz).trans f2
      have g3 := (hb3.frozen (p := ⟨w.heap.size + 1, 1, none⟩) hzz).trans f3
      have hB9 : Below w.heap.size w w3 := (hbw2.trans (hB.mono (by omega))).trans (hb3.mono (by omega))
      clear f0 f1 f2 f3
      rw [HLL.out] at hres
      go_wp2
      exact bodyPost_ret (v := .agg #[.int .i64 pts.length, .slice aq nq9 cq]) (by simp [results, Try.results76, go_sem, *]) rfl ⟨_, rfl, (hres.kept (gb_set2 w3 (w.heap.size + 1) (.int .i64 pts.length) (.slice aq nq9 cq)) (fun r e => by cases e; exact .inl (by omega))).wide (by omega) (by simp [World.setCell]), below_set2 hB9 (by omega) _ _⟩

theorem onF_wf (v : Int) (bs : List Blk) (pts : List Int) (hl : pts.length ≤ 1100000) : ∀ y ∈ (onF v bs pts).2.1, WFB y := by
  unfold onF
  split
  · split
    · intro y hy
      obtain ⟨x, _, hx⟩ := List.mem_filterMap.1 hy
      obtain ⟨⟨h1, h2⟩, ⟨h3, h4⟩, ⟨h5, h6⟩⟩ := onB_in hx
      have key : ∀ a : Int, 0 ≤ a → a < pts.length → WF a := fun a q1 q2 => by
        have e : a = wrap64 a := by unfold wrap64; omega
        unfold WF
        rw [e]
        exact wrap64_wf _
      exact ⟨key _ h1 h2, key _ h3 h4, key _ h5 h6⟩
    · intro y hy; cases hy
  · intro y hy; cases hy
theorem onF_code (v : Int) (bs : List Blk) (pts : List Int) : onF v bs pts = if (if setCode v bs pts = 0 ∧ pts.length < 3 then (2 : Int) else setCode v bs pts) = 0 then ((pts.length : Int), bs.filterMap (onB pts), 0) else (0, [], if setCode v bs pts = 0 ∧ pts.length < 3 then 2 else setCode v bs pts) := by
  unfold onF setCode
  rw [ptGo_split]
  cases isSysImpl v bs <;> cases pts.all (inP v) <;> cases ascGo none pts <;> by_cases h : pts.length < 3 <;> simp [h] <;> omega
set_option maxRecDepth 100000 in
set_option maxHeartbeats 1000000 in
theorem specBlocksOn_any (v : Int) (s : Value) (bs : List Blk) (t : Value) (pts : List Int) (w : World) (h : SB w s bs) (ht : IB w t pts) :
    Calls Try.prog 26 #[.agg #[.int .i64 v, s], t] w (RSys (onF v bs pts) w) := by
  have hs := h.slice
  have HI := Lib.hid fun W (hb : Below w.heap.size w W) => l01Set_any v s bs t pts W (h.below hb (Nat.le_refl _)) (ht.below hb (Nat.le_refl _))
  have HON := Lib.hid fun (hl : bs.length ≤ 35) W (hb : Below w.heap.size w W) => l01On_any v s bs t pts W (h.below hb (Nat.le_refl _)) (ht.below hb (Nat.le_refl _)) hl
  have hts : ∃ a c, t = .slice a pts.length c := by rcases ht.2 with ⟨a, c, rfl, rfl⟩ | ⟨b, off, cap, rfl, _⟩ <;> exact ⟨_, _, rfl⟩
  clear h ht
  obtain ⟨a0, c0, rfl⟩ := hs
  obtain ⟨a1, c1, rfl⟩ := hts
  have hval := onF_code v bs pts
  have hzi : setCode v bs pts = 0 → isSysImpl v bs = true ∧ ptGo v none pts = true := fun h => by
    unfold setCode at h
    rw [ptGo_split]
    revert h
    cases isSysImpl v bs <;> cases pts.all (inP v) <;> cases ascGo none pts <;> simp
  obtain ⟨κ, hκ⟩ : ∃ κ, κ = setCode v bs pts := ⟨_, rfl⟩
  rw [← hκ] at HI hval hzi
  clear hκ
  by_cases e : κ = 0
  · subst e
    obtain ⟨hi, hp⟩ := hzi rfl
    clear hzi
    obtain ⟨_, _, hb35⟩ := sys_size hi
    have hsort := onL_sorted hi hp
    by_cases hl3 : pts.length < 3
    · have HV := Lib.hid (show onF v bs pts = (0, [], 2) by rw [hval]; simp [hl3])
      have q1 : decide ((pts.length : Int) < 3) = true := by simp; omega
      have q2 : (pts.length : Int) < 3 := by omega
      clear hval hsort hi hp HON
      go_enter Try.func26, Try.ntmps26
      go_wp2_with (go_at_call 75; refine (HI.out _ (below2 _ _ _ _)).mono ?_; rintro e w1 ⟨rfl, hb1⟩; obtain ⟨_, _, d0, d1, f0, f1, hbw, hlt⟩ := boxes2 hb1)
      exact bodyPost_ret (v := .tuple #[.agg #[.int .i64 0, .slice none 0 0], .int .i64 2]) (by simp [results, Try.results26, go_sem, *]) rfl (by rw [HV.out]; exact ⟨_, rfl, .inl ⟨rfl, _, _, rfl⟩, below_set2 hbw (by omega) _ _⟩)
    · have hv2 : onF v bs pts = ((pts.length : Int), sortB (bs.filterMap (onB pts)), 0) := by rw [hval, hsort]; simp [hl3]
      have HV := Lib.hid hv2
      have q1 : decide ((pts.length : Int) < 3) = false := by simp; omega
      have HO := Lib.hid (HON.out hb35)
      clear hval hsort hi hp HON hl3 hv2
      go_enter Try.func26, Try.ntmps26
      go_wp2_with fail
      refine (HI.out _ (below2 _ _ _ _)).mono ?_
      rintro e w1 ⟨rfl, hb1⟩
      obtain ⟨p0, p1, d0, d1, f0, f1, hbw, hlt⟩ := boxes2 hb1
      clear hb1
      go_wp2_with fail
      refine (HO.out _ hbw).mono ?_
      rintro e w3 ⟨s3, rfl, hr3, hb3⟩
      have d0' := (hb3.cell (p := ⟨w.heap.size + 1, 0, none⟩) hlt).trans d0
      have d1' := (hb3.cell (p := ⟨w.heap.size + 1, 1, none⟩) hlt).trans d1
      have f0' := (hb3.frozen (p := ⟨w.heap.size + 1, 0, none⟩) hlt).trans f0
      have f1' := (hb3.frozen (p := ⟨w.heap.size + 1, 1, none⟩) hlt).trans f1
      have hz3 := hb3.size
      obtain ⟨a3, n3, hs3⟩ := hr3.slice
      obtain ⟨m3, hm3⟩ : ∃ m, m = (sortB (bs.filterMap (onB pts))).length := ⟨_, rfl⟩
      rw [← hm3] at hs3
      clear hm3
      subst hs3
      go_wp2
      exact bodyPost_ret (v := .tuple #[.agg #[.int .i64 pts.length, .slice a3 m3 n3], .int .i64 0]) (by simp [results, Try.results26, go_sem, *]) rfl (by rw [HV.out]; exact ⟨_, rfl, (hr3.kept (gb_set2 w3 (w.heap.size + 1) (.int .i64 pts.length) (.slice a3 m3 n3)) (fun r e => by cases e; exact .inl (by omega))).wide (by omega) (by simp [World.setCell]), below_set2 (hbw.trans (hb3.mono (by omega))) (by omega) _ _⟩)
  · have q1 : (κ != 0) = true := by simpa using e
    have q2 : decide (κ = 0) = false := by simpa using e
    have q3 : (κ == 0) = false := by simpa using e
    have HV := Lib.hid (show onF v bs pts = (0, [], κ) by rw [hval]; simp [e])
    clear hval hzi HON
    go_enter Try.func26, Try.ntmps26
    go_wp2_with (go_at_call 75; refine (HI.out _ (below2 _ _ _ _)).mono ?_; rintro e w1 ⟨rfl, hb1⟩; obtain ⟨_, _, d0, d1, f0, f1, hbw, hlt⟩ := boxes2 hb1)
    exact bodyPost_ret (v := .tuple #[.agg #[.int .i64 0, .slice none 0 0], .int .i64 κ]) (by simp [results, Try.results26, go_sem, *]) rfl (by rw [HV.out]; exact ⟨_, rfl, .inl ⟨rfl, _, _, rfl⟩, below_set2 hbw (by omega) _ _⟩)
end Go.Proofs.Ytlkjacgpjolbdaa

namespace Go.Proofs.Ytlkjacgpjolbdaa
open Go.RowKit Go.Maps
/-- The two boxes of the arguments; what was there before the call is as it was. -/
structure St2 (w : World) (v u : Int) (s t : Value) (W : World) : Prop where
  below : Below w.heap.size w W
  big : w.heap.size + 1 < W.heap.size
  x0 : W.cell? ⟨w.heap.size, 0, none⟩ = some (.int .i64 v)
  x1 : W.cell? ⟨w.heap.size, 1, none⟩ = some s
  y0 : W.cell? ⟨w.heap.size + 1, 0, none⟩ = some (.int .i64 u)
  y1 : W.cell? ⟨w.heap.size + 1, 1, none⟩ = some t
theorem St2.step {w : World} {v u : Int} {s t : Value} {W W' : World} {row : Option Nat} (h : St2 w v u s t W) (hg : W.grownBy W' row) (hr : ∀ r, row = some r → w.heap.size + 1 < r) : St2 w v u s t W' :=
  ⟨h.below.grown hg h.below.size (fun r e => by have := hr r e; omega), Nat.lt_of_lt_of_le h.big hg.size,
    hg.cell h.x0 (fun e => by have := hr _ e.symm; simp at this; omega), hg.cell h.x1 (fun e => by have := hr _ e.symm; simp at this; omega),
    hg.cell h.y0 (fun e => by have := hr _ e.symm; simp at this), hg.cell h.y1 (fun e => by have := hr _ e.symm; simp at this)⟩
theorem St2.start (w : World) (v u : Int) (s t : Value) : St2 w v u s t ((w.alloc (.cells #[.int .i64 v, s] 24)).alloc (.cells #[.int .i64 u, t] 24)) :=
  ⟨((Below.refl _ _).alloc (Nat.le_refl _) _).alloc (by simp) _, by simp, by simp [go_sem], by simp [go_sem], by simp [go_sem], by simp [go_sem]⟩
/-- A variable that holds a system. -/
structure VarB (W : World) (X : Nat) (v : Int) (s : Value) : Prop where
  lt : X < W.heap.size
  c0 : W.cell? ⟨X, 0, none⟩ = some (.int .i64 v)
  c1 : W.cell? ⟨X, 1, none⟩ = some s
theorem VarB.step {W W' : World} {X : Nat} {v : Int} {s : Value} {row : Option Nat} (h : VarB W X v s) (hg : W.grownBy W' row) (hr : row ≠ some X) : VarB W' X v s :=
  ⟨Nat.lt_of_lt_of_le h.lt hg.size, hg.cell h.c0 (fun e => hr e.symm), hg.cell h.c1 (fun e => hr e.symm)⟩
theorem VarB.new (W : World) (v : Int) (s : Value) (T : TypeId) : VarB (W.alloc (.cells #[.int .i64 v, s] T)) W.heap.size v s := ⟨by simp, by simp, by simp⟩

/-- The state of a law whose results are lists of blocks: the model's result (from i0 on, before i1), the two copies and their variables, the program's result. -/
structure CB (w : World) (v u : Int) (s t sW s8 s9 sG : Value) (X Y i0 i1 i2 i3 i4 i5 i6 : Nat) (LW L8 L9 LG : List Blk) (W : World) : Prop where
  st : St2 w v u s t W
  o0 : w.heap.size + 1 < i0
  o1 : i0 ≤ i1
  o2 : i1 ≤ i2
  oX : i2 ≤ X
  oX' : X < i3
  o4 : i3 ≤ i4
  oY : i4 ≤ Y
  oY' : Y < i5
  o6 : i5 ≤ i6
  rW : ResR W i0 i1 sW LW
  r8 : ResR W i1 i2 s8 L8
  vX : VarB W X v s8
  r9 : ResR W i3 i4 s9 L9
  vY : VarB W Y u s9
  rG : ResR W i5 i6 sG LG
section
variable {w : World} {v u : Int} {s t sW s8 s9 sG : Value} {X Y i0 i1 i2 i3 i4 i5 i6 : Nat} {LW L8 L9 LG : List Blk} {W W' : World}
theorem CB.step (h : CB w v u s t sW s8 s9 sG X Y i0 i1 i2 i3 i4 i5 i6 LW L8 L9 LG W) (hg : W.grownBy W' none) : CB w v u s t sW s8 s9 sG X Y i0 i1 i2 i3 i4 i5 i6 LW L8 L9 LG W' :=
  ⟨h.st.step hg (by simp), h.o0, h.o1, h.o2, h.oX, h.oX', h.o4, h.oY, h.oY', h.o6, h.rW.kept hg (by simp), h.r8.kept hg (by simp), h.vX.step hg (by simp), h.r9.kept hg (by simp), h.vY.step hg (by simp), h.rG.kept hg (by simp)⟩
theorem CB.mark8 (h : CB w v u s t sW s8 s9 sG X Y i0 i1 i2 i3 i4 i5 i6 LW L8 L9 LG W) {row : Option Nat} (hg : W.grownBy W' row) (hr : ∀ r, row = some r → i1 ≤ r ∧ r < i2) {L : List Blk} (hn : ResR W' i1 i2 s8 L) :
    CB w v u s t sW s8 s9 sG X Y i0 i1 i2 i3 i4 i5 i6 LW L L9 LG W' := by
  obtain ⟨st, o0, o1, o2, oX, oX', o4, oY, oY', o6, rW, r8, vX, r9, vY, rG⟩ := h
  exact ⟨st.step hg (fun r e => by have := hr r e; omega), o0, o1, o2, oX, oX', o4, oY, oY', o6, rW.kept hg (fun r e => by have := hr r e; omega), hn, vX.step hg (fun e => by have := hr _ e; omega), r9.kept hg (fun r e => by have := hr r e; omega), vY.step hg (fun e => by have := hr _ e; omega), rG.kept hg (fun r e => by have := hr r e; omega)⟩
theorem CB.mark9 (h : CB w v u s t sW s8 s9 sG X Y i0 i1 i2 i3 i4 i5 i6 LW L8 L9 LG W) {row : Option Nat} (hg : W.grownBy W' row) (hr : ∀ r, row = some r → i3 ≤ r ∧ r < i4) {L : List Blk} (hn : ResR W' i3 i4 s9 L) :
    CB w v u s t sW s8 s9 sG X Y i0 i1 i2 i3 i4 i5 i6 LW L8 L LG W' := by
  obtain ⟨st, o0, o1, o2, oX, oX', o4, oY, oY', o6, rW, r8, vX, r9, vY, rG⟩ := h
  exact ⟨st.step hg (fun r e => by have := hr r e; omega), o0, o1, o2, oX, oX', o4, oY, oY', o6, rW.kept hg (fun r e => by have := hr r e; omega), r8.kept hg (fun r e => by have := hr r e; omega), vX.step hg (fun e => by have := hr _ e; omega), hn, vY.step hg (fun e => by have := hr _ e; omega), rG.kept hg (fun r e => by have := hr r e; omega)⟩
theorem CB.markG (h : CB w v u s t sW s8 s9 sG X Y i0 i1 i2 i3 i4 i5 i6 LW L8 L9 LG W) {row : Option Nat} (hg : W.grownBy W' row) (hr : ∀ r, row = some r → i5 ≤ r ∧ r < i6) {L : List Blk} (hn : ResR W' i5 i6 sG L) :
    CB w v u s t sW s8 s9 sG X Y i0 i1 i2 i3 i4 i5 i6 LW L8 L9 L W' := by
  obtain ⟨st, o0, o1, o2, oX, oX', o4, oY, oY', o6, rW, r8, vX, r9, vY, rG⟩ := h
  exact ⟨st.step hg (fun r e => by have := hr r e; omega), o0, o1, o2, oX, oX', o4, oY, oY', o6, rW.kept hg (fun r e => by have := hr r e; omega), r8.kept hg (fun r e => by have := hr r e; omega), vX.step hg (fun e => by have := hr _ e; omega), r9.kept hg (fun r e => by have := hr r e; omega), vY.step hg (fun e => by have := hr _ e; omega), hn⟩
end
end Go.Proofs.Ytlkjacgpjolbdaa

namespace Go.Proofs.Ytlkjacgpjolbdaa
open Go.RowKit Go.Maps
theorem ResI.slice {w : World} {lo hi : Nat} {s : Value} {zs : List Int} (h : ResI w lo hi s zs) : ∃ a c, s = .slice a zs.length c := by
  rcases h with ⟨rfl, a, c, rfl⟩ | ⟨g, cap, rfl, _⟩ <;> exact ⟨_, _, rfl⟩
theorem ResI.wide {w : World} {lo hi lo' hi' : Nat} {s : Value} {zs : List Int} (h : ResI w lo hi s zs) (h1 : lo' ≤ lo) (h2 : hi ≤ hi') : ResI w lo' hi' s zs := by
  rcases h with h | ⟨g, cap, rfl, h3, h4, ho⟩
  · exact .inl h
  · exact .inr ⟨g, cap, rfl, by omega, by omega, ho⟩
structure St1 (w : World) (v : Int) (s : Value) (W : World) : Prop where
  below : Below w.heap.size w W
  big : w.heap.size < W.heap.size
  x0 : W.cell? ⟨w.heap.size, 0, none⟩ = some (.int .i64 v)
  x1 : W.cell? ⟨w.heap.size, 1, none⟩ = some s
theorem St1.step {w : World} {v : Int} {s : Value} {W W' : World} {row : Option Nat} (h : St1 w v s W) (hg : W.grownBy W' row) (hr : ∀ r, row = some r → w.heap.size < r) : St1 w v s W' :=
  ⟨h.below.grown hg h.below.size (fun r e => by have := hr r e; omega), Nat.lt_of_lt_of_le h.big hg.size,
    hg.cell h.x0 (fun e => by have := hr _ e.symm; simp at this), hg.cell h.x1 (fun e => by have := hr _ e.symm; simp at this)⟩
theorem St1.start (w : World) (v : Int) (s : Value) : St1 w v s (w.alloc (.cells #[.int .i64 v, s] 24)) :=
  ⟨(Below.refl _ _).alloc (Nat.le_refl _) _, by simp, by simp [go_sem], by simp [go_sem]⟩
structure CI (w : World) (v : Int) (s sW s8 sG : Value) (X i0 i1 i2 i5 i6 : Nat) (LW : List Int) (L8 : List Blk) (LG : List Int) (W : World) : Prop where
  st : St1 w v s W
  o0 : w.heap.size < i0
  o1 : i0 ≤ i1
  o2 : i1 ≤ i2
  oX : i2 ≤ X
  oX' : X < i5
  o6 : i5 ≤ i6
  rW : ResI W i0 i1 sW LW
  r8 : ResR W i1 i2 s8 L8
  vX : VarB W X v s8
  rG : ResI W i5 i6 sG LG
section
variable {w : World} {v : Int} {s sW s8 sG : Value} {X i0 i1 i2 i5 i6 : Nat} {LW LG : List Int} {L8 : List Blk} {W W' : World}
theorem CI.step (h : CI w v s sW s8 sG X i0 i1 i2 i5 i6 LW L8 LG W) (hg : W.grownBy W' none) : CI w v s sW s8 sG X i0 i1 i2 i5 i6 LW L8 LG W' :=
  ⟨h.st.step hg (by simp), h.o0, h.o1, h.o2, h.oX, h.oX', h.o6, h.rW.kept hg (by simp), h.r8.kept hg (by simp), h.vX.step hg (by simp), h.rG.kept hg (by simp)⟩
theorem CI.mark8 (h : CI w v s sW s8 sG X i0 i1 i2 i5 i6 LW L8 LG W) {row : Option Nat} (hg : W.grownBy W' row) (hr : ∀ r, row = some r → i1 ≤ r ∧ r < i2) {L : List Blk} (hn : ResR W' i1 i2 s8 L) :
    CI w v s sW s8 sG X i0 i1 i2 i5 i6 LW L LG W' := by
  obtain ⟨st, o0, o1, o2, oX, oX', o6, rW, r8, vX, rG⟩ := h
  exact ⟨st.step hg (fun r e => by have := hr r e; omega), o0, o1, o2, oX, oX', o6, rW.kept hg (fun r e => by have := hr r e; omega), hn, vX.step hg (fun e => by have := hr _ e; omega), rG.kept hg (fun r e => by have := hr r e; omega)⟩
theorem CI.markG (h : CI w v s sW s8 sG X i0 i1 i2 i5 i6 LW L8 LG W) {row : Option Nat} (hg : W.grownBy W' row) (hr : ∀ r, row = some r → i5 ≤ r ∧ r < i6) {L : List Int} (hn : ResI W' i5 i6 sG L) :
    CI w v s sW s8 sG X i0 i1 i2 i5 i6 LW L8 L W' := by
  obtain ⟨st, o0, o1, o2, oX, oX', o6, rW, r8, vX, rG⟩ := h
  exact ⟨st.step hg (fun r e => by have := hr r e; omega), o0, o1, o2, oX, oX', o6, rW.kept hg (fun r e => by have := hr r e; omega), r8.kept hg (fun r e => by have := hr r e; omega), vX.step hg (fun e => by have := hr _ e; omega), hn⟩
end
theorem gb_drew1 (w : World) : w.grownBy w.drew none := ⟨rfl, rfl, rfl, Nat.le_refl _, fun _ _ _ => rfl⟩
theorem gb_alloc1 (w : World) (o : Obj) : w.grownBy (w.alloc o) none := World.grownBy_alloc w o none
end Go.Proofs.Ytlkjacgpjolbdaa

namespace Go.Proofs.Ytlkjacgpjolbdaa
open Go.RowKit Go.Maps
theorem mkRow (n : Nat) (hn : n ≤ 1100000) (W : World) : (Instr.makeSlice 35 (.int .i64 (n : Int)) (.int .i64 (n : Int))).run Try.prog W = .ok (.slice (some ⟨W.heap.size, 0, none⟩) n n) (W.alloc (.cells (madeCells #[.int .i64 0] n) 2)) := by
  obtain ⟨i0, hi, hz0, hz1, hz2⟩ := info_parts infoInt64
  have hr := run_make (P := Try.prog) W 35 2 i0 (.int .i64 0) Try.underlying35 hi hz0 .i64 .i64 n n (by omega) (by omega) (by rw [hz2]; omega) (by omega)
  simp only [Int.toNat_natCast, hz1, Nat.mul_one] at hr
  exact hr
end Go.Proofs.Ytlkjacgpjolbdaa

namespace Go.Proofs.Ytlkjacgpjolbdaa
open Go.RowKit Go.Maps
theorem AccS.new0 (W : World) (gs caps : Nat → Nat) (F : Nat → List Int) {base : Nat} (hb : base ≤ W.heap.size) : AccS (W.alloc (.cells #[] 35)) base (.slice (some ⟨W.heap.size, 0, none⟩) 0 0) 0 gs caps F :=
  ⟨⟨rfl, .inr ⟨W.heap.size, 0, #[], rfl, hb, World.alloc_heap_new W _, Nat.le_refl _, Nat.zero_le _, rfl, rfl⟩⟩, fun k hk => by omega, fun k hk => by omega, fun j k _ hk => by omega, fun k hk => by omega⟩
theorem l01In_val (n : Int) (β : Bool) (hβ : (decide ((2 : Int) ≤ n) && decide (n ≤ 5)) = β) (W : World) : Calls Try.prog 67 #[.int .i64 n, .int .i64 2, .int .i64 5] W (RS (.bool β) W) := by
  have h := l01In_any n 2 5 W
  rw [hβ] at h
  exact h
end Go.Proofs.Ytlkjacgpjolbdaa

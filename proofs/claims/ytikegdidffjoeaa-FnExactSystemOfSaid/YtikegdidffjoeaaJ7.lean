
/- The program's PairsLeft. impl.SystemOf answers as the plain function sysOfF. The model's insertion sort. The model's block of three points. The model's DoubleSystem answers as dblF. -/
import Derived.Test.YtikegdidffjoeaaJ6
namespace Go.Proofs.Ytikegdidffjoeaa
open Go.RowKit Go.Maps
/-- The pairs (a, b), b among the next n, that P lets through; then those of the rows before a. -/
def rowL (P : Int → Int → Bool) (a : Nat) : Nat → List (Int × Int)
  | 0 => []
  | n + 1 => rowL P a n ++ if P a ((a : Int) + 1 + n) then [((a : Int), (a : Int) + 1 + n)] else []
def leftL (P : Int → Int → Bool) (v : Nat) : Nat → List (Int × Int)
  | 0 => []
  | a + 1 => leftL P v a ++ rowL P a (v - 1 - a)
theorem rowL_len (P : Int → Int → Bool) (a n : Nat) : (rowL P a n).length ≤ n := by
  induction n with
  | zero => simp [rowL]
  | succ n ih =>
    unfold rowL
    rw [List.length_append]
    split <;> simp <;> omega
theorem leftL_len (P : Int → Int → Bool) (v a : Nat) : (leftL P v a).length ≤ a * v := by
  induction a with
  | zero => simp [leftL]
  | succ a ih =>
    unfold leftL
    rw [List.length_append, Nat.succ_mul]
    have := rowL_len P a (v - 1 - a)
    omega
theorem rowL_congr {P Q : Int → Int → Bool} {a : Nat} : ∀ n : Nat, (∀ b : Int, (a : Int) < b → b ≤ a + n → P a b = Q a b) → rowL P a n = rowL Q a n
  | 0, _ => rfl
  | n + 1, h => by
    unfold rowL
    rw [rowL_congr n (fun b h1 h2 => h b h1 (by omega)), h ((a : Int) + 1 + n) (by omega) (by omega)]
theorem leftL_congr {P Q : Int → Int → Bool} {v : Nat} : ∀ a : Nat, a ≤ v → (∀ a' b : Int, 0 ≤ a' → a' < b → b < v → P a' b = Q a' b) → leftL P v a = leftL Q v a
  | 0, _, _ => rfl
  | a + 1, ha, h => by
    unfold leftL
    rw [leftL_congr a (by omega) h, rowL_congr _ (fun b h1 h2 => h a b (by omega) h1 (by omega))]
def fnL (L : List (Int × Int)) (k : Nat) : List Int := let p := L[k]?.getD (0, 0); [p.1, p.2]
theorem fnL_len (L : List (Int × Int)) (k : Nat) : (fnL L k).length = 2 := rfl
theorem fnL_lt {L L' : List (Int × Int)} {k : Nat} (h : k < L.length) : fnL L k = fnL (L ++ L') k := by
  unfold fnL
  rw [List.getElem?_append_left h]
theorem fnL_at (L : List (Int × Int)) (p : Int × Int) : fnL (L ++ [p]) L.length = [p.1, p.2] := by simp [fnL]
theorem AccS.congr {w : World} {base : Nat} {u : Value} {n : Nat} {gs caps : Nat → Nat} {F F' : Nat → List Int} (h : AccS w base u n gs caps F) (e : ∀ k, k < n → F k = F' k) : AccS w base u n gs caps F' := by
  refine ⟨?_, fun k hk => by rw [← e k hk]; exact h.row k hk, h.ne, h.inc, h.low⟩
  have he : (List.range n).map (rowV gs caps F') = (List.range n).map (rowV gs caps F) := map_congr' fun k hk => by
    have := e k (List.mem_range.1 hk)
    simp [rowV, this]
  rw [he]
  exact h.own
theorem AccS.base {w : World} {base base' : Nat} {u : Value} {n : Nat} {gs caps : Nat → Nat} {F : Nat → List Int} (h : AccS w base u n gs caps F) (hb : base' ≤ base) : AccS w base' u n gs caps F :=
  ⟨ownsRow_base h.own hb, h.row, h.ne, h.inc, fun k hk => Nat.le_trans hb (h.low k hk)⟩
theorem wf_pl {n : Int} (h0 : 0 ≤ n) (h1 : n ≤ 1000) : WF n := by
  have : n = wrap64 n := by unfold wrap64; omega
  unfold WF
  rw [this]
  exact wrap64_wf _
def notIn (seen : List (Int × Int)) (a b : Int) : Bool := !decide ((a, b) ∈ seen)
theorem two_own (w : World) (x y : Int) (T : TypeId) : OwnAtI (w.alloc (.cells #[.int .i64 x, .int .i64 y] T)) w.heap.size [x, y] := by
  refine ⟨by simp, fun k hk => ?_, fun o => by simp⟩
  rw [World.cell?_alloc_at _ _ _ _ rfl]
  match k, hk with
  | 0, _ => rfl
  | 1, _ => rfl
end Go.Proofs.Ytikegdidffjoeaa

namespace Go.Proofs.Ytikegdidffjoeaa
open Go.RowKit Go.Maps
theorem mkBlk0 (n : Nat) (hn : n ≤ 1100000) (W : World) : ∃ cs : Array Value, cs.size = n * 3 ∧ (Instr.makeSlice 24 (.int .i64 0) (.int .i64 (n : Int))).run Try.prog W = .ok (.slice (some ⟨W.heap.size, 0, none⟩) 0 n) (W.alloc (.cells cs 50)) := by
  obtain ⟨i0, hi, hz0, hz1, hz2⟩ := info_parts infoBlock
  have hr := run_make (P := Try.prog) W 24 50 i0 _ Try.underlying24 hi hz0 .i64 .i64 0 n (by omega) (by omega) (by rw [hz2]; omega) (by omega)
  simp only [Int.toNat_natCast, hz1, Int.toNat_zero] at hr
  exact ⟨_, size_madeCells _ _, hr⟩
def okS (v : Int) (x : Blk) : Bool := goodB v (b3 x)
/-- What the loop does with the first k blocks: all are good, and these are their blocks. -/
theorem take_all {v : Int} {bs : List Blk} {k : Nat} (hk : k < bs.length) {x : Blk} (hx : bs[k]? = some x) : (bs.take (k + 1)).all (okS v) = ((bs.take k).all (okS v) && okS v x) := by
  have e : bs[k] = x := by rw [List.getElem?_eq_getElem hk] at hx; simpa using hx
  rw [List.take_succ_eq_append_getElem hk, List.all_append, e]
  simp
theorem all_stop {v : Int} {bs : List Blk} {k : Nat} (hk : k < bs.length) {x : Blk} (hx : bs[k]? = some x) (h : okS v x = false) : bs.all (okS v) = false := by
  have e : bs[k] = x := by rw [List.getElem?_eq_getElem hk] at hx; simpa using hx
  rw [List.all_eq_false]
  exact ⟨x, by rw [← e]; exact List.getElem_mem hk, by simp [h]⟩
set_option maxRecDepth 100000 in
set_option maxHeartbeats 1000000 in
theorem SystemOf_any (v : Int) (s : Value) (bs : List Blk) (w : World) (h : SB w s bs) :
    Calls Try.prog 29 #[.int .i64 v, s] w (RSys (sysOfF v bs) w) := by
  have hs := h.slice
  have HSB := Lib.hid h
  have hlen := h.2.1
  have HZ := Lib.hid fun W => isSize_any v W
  clear h
  obtain ⟨a0, c0, rfl⟩ := hs
  by_cases hz : (decide (3 ≤ v) && decide (v ≤ 15)) = true
  · rw [hz] at HZ
    by_cases hl : bs.length ≤ 35
    · have hd35 : decide (35 < bs.length) = false := by simp; omega
      have hd35' : decide ((35 : Int) < (bs.length : Int)) = false := by simp; omega
      have hv : 3 ≤ v ∧ v ≤ 15 := by simpa using hz
      obtain ⟨hv3, hv15⟩ := hv
      have HVZ := Lib.hid hz
      obtain ⟨cs, hcs, hmk⟩ := mkBlk0 bs.length hlen (w.alloc (.cells #[.int .i64 0, .slice none 0 0] 26))
      have HCS := Lib.hid hcs
      clear hz hcs
      go_enter Try.func29, Try.ntmps29
      go_wp2_with fail
      refine (HZ.out _).mono ?_
      rintro e w1 ⟨rfl, rfl⟩
      go_wp2_with fail
      obtain ⟨w2, hw2⟩ : ∃ w2, (w.alloc (.cells #[.int .i64 0, .slice none 0 0] 26)) = w2 := ⟨_, rfl⟩
      have e0 : w2.cell? ⟨w.heap.size, 0, none⟩ = some (.int .i64 0) := by rw [← hw2]; simp [go_sem]
      have e1 : w2.cell? ⟨w.heap.size, 1, none⟩ = some (.slice none 0 0) := by rw [← hw2]; simp [go_sem]
      have k0 : w2.frozen? ⟨w.heap.size, 0, none⟩ = false := by rw [← hw2]; simp [go_sem]
      have k1 : w2.frozen? ⟨w.heap.size, 1, none⟩ = false := by rw [← hw2]; simp [go_sem]
      have hz2 : w2.heap.size = w.heap.size + 1 := by rw [← hw2]; simp
      have hbw2 : Below w.heap.size w w2 := by rw [← hw2]; exact (Below.refl _ _).alloc (Nat.le_refl _) _
      rw [hw2]
      clear hw2 hmk
      have HO0 : Hid (OwnR (w2.alloc (.cells cs 50)) w2.heap.size (.slice (some ⟨w2.heap.size, 0, none⟩) 0 bs.length) []) := Lib.hid (World.ownsRow_made w2 cs bs.length (Nat.le_refl _) (by unfold maxLen; omega) HCS.out)
      rw [hz2] at HO0
      have HB3 : Hid (Below w2.heap.size w2 (w2.alloc (.cells cs 50))) := Lib.hid ((Below.refl _ _).alloc (Nat.le_refl _) _)
      have HE := Lib.hid (And.intro e0 (And.intro e1 (And.intro k0 k1)))
      have HSX := Lib.hid (HSB.out.below hbw2 (Nat.le_refl _)).sx
      have HZ2 := Lib.hid hz2
      have hlt2 : w.heap.size < w2.heap.size := by omega
      clear e0 e1 k0 k1 hz2 HCS
      go_loopw [6, 24] (fun o t wr => ∃ k : Nat, k ≤ bs.length ∧ t = .int .i64 k ∧ Below w2.heap.size w2 wr ∧ OwnR wr w2.heap.size o ((bs.take k).map b3) ∧ Hid ((bs.take k).all (okS v) = true) ∧ ∃ a n c, o = .slice a n c) (fun _ t _ => bs.length - (intOf t).toNat)
      case atStart => exact ⟨0, Nat.zero_le _, rfl, HB3.out, by rw [HZ2.out]; exact HO0.out, Lib.hid (by simp), _, _, _, rfl⟩
      case round =>
        obtain ⟨k, hk, rfl, hB, hO, HALL, a5, n5, c5, rfl⟩ := hrel
        have hz := hB.size
        have HO5 := Lib.hid hO
        clear hO
        by_cases hkl : k < bs.length
        · rcases HSX.out with ⟨_, _, _, hnil⟩ | ⟨b, off, cap, hv, hblt, hbl⟩
          · rw [hnil] at hkl; simp at hkl
          simp at hv
          obtain ⟨rfl, rfl⟩ := hv
          have hz4 : b < wr.heap.size := by omega
          obtain ⟨x, hx, ex, x1, x2, x3⟩ := blks_at (hbl.below hB hblt) hkl
          have hta := take_all (v := v) hkl ex
          have hst := fun h => all_stop (v := v) hkl ex h
          obtain ⟨xa, xb, xc⟩ := x
          dsimp only at x1 x2 x3
          obtain ⟨r, hr⟩ : ∃ r, r = blk3 xa xb xc := ⟨_, rfl⟩
          have hsucc : (bs.take (k + 1)).map b3 = (bs.take k).map b3 ++ [r] := by
            have e1 : bs[k] = ⟨xa, xb, xc⟩ := by rw [List.getElem?_eq_getElem hkl] at ex; simpa using ex
            rw [List.take_succ_eq_append_getElem hkl, List.map_append, e1, hr]
            simp [b3]
          have hok : okS v ⟨xa, xb, xc⟩ = goodB v r := by rw [hr]; rfl
          rw [hok] at hta hst
          have HSU := Lib.hid hsucc
          have HTA := Lib.hid hta
          have HST := Lib.hid hst
          have HBF := Lib.hid fun (B : Nat) (C : Nat) (W : World) (j0 : W.cell? ⟨B, 0, none⟩ = some (.int .i64 xa)) (j1 : W.cell? ⟨B, 1, none⟩ = some (.int .i64 xb)) (j2 : W.cell? ⟨B, 2, none⟩ = some (.int .i64 xc)) => blockFrom_any B 0 C xa xb xc W j0 j1 j2
          rw [← hr] at HBF
          have HIB := Lib.hid fun W => isBlock_any v r W
          have i0 : (0 : Int) ≤ (k : Int) := by omega
          have i1 : (k : Int) < (bs.length : Int) := by omega
          have hl3 : ((bs.take k).map b3).length ≤ 1000 := by simp; omega
          obtain ⟨L, hL⟩ : ∃ L, L = (bs.take k).map b3 := ⟨_, rfl⟩
          rw [← hL] at HO5 HSU hl3
          have HLT := Lib.hid (show ∀ r, (Value.slice a5 n5 c5).ownBlock = some r → w2.heap.size ≤ r ∧ r < wr.heap.size from ownsRow_lt HO5.out)
          obtain ⟨ra, rb, rc⟩ := r
          unfold bv at HBF HIB
          dsimp only at HBF HIB
          clear hx ex hbl hsucc hok hta hst hr hL
          cases hgd : goodB v ⟨ra, rb, rc⟩ with
          | true =>
            rw [hgd] at HIB HTA
            clear HST hgd
            go_wp2_with fail
            refine (HBF.out wr.heap.size 3 _ (by simp [go_sem]) (by simp [go_sem]) (by simp [go_sem])).mono ?_
            rintro e w5 ⟨rfl, hb5⟩
            have hB5 : Below wr.heap.size wr w5 := ((Below.refl _ _).alloc (Nat.le_refl _) _).trans (hb5.mono (by simp))
            have hz5 := hB5.size
            have hz5' := hb5.size
            simp at hz5'
            clear hb5
            go_wp2_with fail
            refine (HIB.out _).mono ?_
            rintro e w6 ⟨rfl, hb6⟩
            have hz6 := hb6.size
            simp at hz6
            have d0 := cell_new hb6 0 rfl
            have d1 := cell_new hb6 1 rfl
            have d2 := cell_new hb6 2 rfl
            have hB6 : Below wr.heap.size wr w6 := (hB5.alloc hz5 _).trans (hb6.mono (by simp; omega))
            have HO6 := Lib.hid (HO5.out.below hB6 (Nat.le_refl _))
            clear hb6
            go_wp2_with (at_builtin; refine wpList_append_blk rfl _ _ rfl w2.heap.size _ L rfl (HO6.out.below ((Below.refl _ _).alloc (Nat.le_refl _) _) (Nat.le_refl _)) _ _ ⟨ra, rb, rc⟩ rfl (by simp [go_sem]) (by simp [go_sem]) (by simp [go_sem]) (by omega) (by simp; omega) ?_; intro g' cap' w7 hO7 hg7)
            have hrow := HO6.out.row
            have hgo : w6.grownBy w7 (Value.slice a5 n5 c5).ownBlock := gb_trans (World.grownBy_alloc _ _ none) hg7
            have hB7 := (hB.trans (hB6.mono hz)).grown hgo (by omega) (fun j e => hrow j e)
            go_roundw
            case rel => exact ⟨k + 1, by omega, by go_num, hB7, by rw [HSU.out]; exact hO7, Lib.hid (by rw [HTA.out, HALL.out]; rfl), _, _, _, rfl⟩
            case measure => simp [intOf]; omega
          | false =>
            rw [hgd] at HIB
            have hval : sysOfF v bs = (0, [], 2) := by
              unfold sysOfF
              have := HST.out hgd
              unfold okS at this
              rw [this, Bool.and_false]
              simp
            rw [hval]
            clear hval hgd HTA HST
            obtain ⟨e0, e1, k0, k1⟩ := HE.out
            have g0 := (hB.cell (p := ⟨w.heap.size, 0, none⟩) hlt2).trans e0
            have g1 := (hB.cell (p := ⟨w.heap.size, 1, none⟩) hlt2).trans e1
            have g2 := (hB.frozen (p := ⟨w.heap.size, 0, none⟩) hlt2).trans k0
            have g3 := (hB.frozen (p := ⟨w.heap.size, 1, none⟩) hlt2).trans k1
            clear e0 e1 k0 k1
            have GG := Lib.hid (And.intro g0 (And.intro g1 (And.intro g2 g3)))
            clear g0 g1 g2 g3
            go_wp2_with fail
            refine (HBF.out wr.heap.size 3 _ (by simp [go_sem]) (by simp [go_sem]) (by simp [go_sem])).mono ?_
            rintro e w5 ⟨rfl, hb5⟩
            have hB5 : Below wr.heap.size wr w5 := ((Below.refl _ _).alloc (Nat.le_refl _) _).trans (hb5.mono (by simp))
            have hz5 := hB5.size
            have hz5' := hb5.size
            simp at hz5'
            clear hb5
            go_wp2_with fail
            refine (HIB.out _).mono ?_
            rintro e w6 ⟨rfl, hb6⟩
            have hz6 := hb6.size
            simp at hz6
            have hB6 : Below wr.heap.size wr w6 := (hB5.alloc hz5 _).trans (hb6.mono (by simp; omega))
            clear hb6
            obtain ⟨e0, e1, k0, k1⟩ := GG.out
            have g0 := (hB6.cell (p := ⟨w.heap.size, 0, none⟩) (by show w.heap.size < _; omega)).trans e0
            have g1 := (hB6.cell (p := ⟨w.heap.size, 1, none⟩) (by show w.heap.size < _; omega)).trans e1
            have g2 := (hB6.frozen (p := ⟨w.heap.size, 0, none⟩) (by show w.heap.size < _; omega)).trans k0
            have g3 := (hB6.frozen (p := ⟨w.heap.size, 1, none⟩) (by show w.heap.size < _; omega)).trans k1
            have hB7 := hbw2.trans ((hB.mono (by omega)).trans (hB6.mono (by omega)))
            clear e0 e1 k0 k1
            go_wp2
            exact bodyPost_ret (v := .tuple #[.agg #[.int .i64 0, .slice none 0 0], .int .i64 2]) (by simp [results, Try.results29, go_sem, *]) rfl ⟨_, rfl, .inl ⟨rfl, _, _, rfl⟩, below_set2 hB7 (by omega) _ _⟩
        · have e : k = bs.length := by omega
          subst e
          rw [List.take_length] at HO5 HALL
          have hgood : ∀ x ∈ bs.map b3, goodB v x = true := by
            intro x hx
            obtain ⟨y, hy, rfl⟩ := List.mem_map.1 hx
            exact List.all_eq_true.1 HALL.out y hy
          obtain ⟨L, hL⟩ : ∃ L, L = bs.map b3 := ⟨_, rfl⟩
          have hLl : L.length ≤ 1100000 := by rw [hL, List.length_map]; omega
          rw [← hL] at HO5 hgood
          have hwf : ∀ x ∈ L, WFB x := fun x hx => by
            have := goodB_iff.1 (hgood x hx)
            exact ⟨wf_pl (by omega) (by omega), wf_pl (by omega) (by omega), wf_pl (by omega) (by omega)⟩
          have hres5 := HO5.out.res
          have HSH := Lib.hid (sharePair_any (.slice a5 n5 c5) L wr (hres5.sb hwf hLl))
          have hcond : (decide (3 ≤ v) && decide (v ≤ 15) && decide (bs.length ≤ 35) && bs.all (fun x => goodB v (b3 x))) = true := by
            have := HALL.out
            unfold okS at this
            rw [this, HVZ.out]
            simpa using hl
          have HVAL := Lib.hid (show sysOfF v bs = if shareGo [] L then (0, [], 5) else (v, sortB L, 0) by unfold sysOfF; rw [if_pos hcond, hL])
          obtain ⟨e0, e1, k0, k1⟩ := HE.out
          have f0 := (hB.cell (p := ⟨w.heap.size, 0, none⟩) hlt2).trans e0
          have f1 := (hB.cell (p := ⟨w.heap.size, 1, none⟩) hlt2).trans e1
          have f2 := (hB.frozen (p := ⟨w.heap.size, 0, none⟩) hlt2).trans k0
          have f3 := (hB.frozen (p := ⟨w.heap.size, 1, none⟩) hlt2).trans k1
          have GG := Lib.hid (And.intro f0 (And.intro f1 (And.intro f2 f3)))
          clear e0 e1 k0 k1 hL hgood hwf hres5 hcond f0 f1 f2 f3
          cases hsh : shareGo [] L with
          | true =>
            rw [hsh] at HSH
            have HV5 := Lib.hid (show sysOfF v bs = (0, [], 5) by rw [HVAL.out, hsh]; rfl)
            clear hsh HVAL
            go_wp2_with fail
            refine HSH.out.mono ?_
            rintro e w3 ⟨rfl, hb3⟩
            obtain ⟨e0, e1, k0, k1⟩ := GG.out
            have g0 := (hb3.cell (p := ⟨w.heap.size, 0, none⟩) (by show w.heap.size < _; omega)).trans e0
            have g1 := (hb3.cell (p := ⟨w.heap.size, 1, none⟩) (by show w.heap.size < _; omega)).trans e1
            have g2 := (hb3.frozen (p := ⟨w.heap.size, 0, none⟩) (by show w.heap.size < _; omega)).trans k0
            have g3 := (hb3.frozen (p := ⟨w.heap.size, 1, none⟩) (by show w.heap.size < _; omega)).trans k1
            have hB7 := hbw2.trans ((hB.mono (by omega)).trans (hb3.mono (by omega)))
            clear e0 e1 k0 k1 hb3
            go_wp2
            exact bodyPost_ret (v := .tuple #[.agg #[.int .i64 0, .slice none 0 0], .int .i64 5]) (by simp [results, Try.results29, go_sem, *]) rfl (by rw [HV5.out]; exact ⟨_, rfl, .inl ⟨rfl, _, _, rfl⟩, below_set2 hB7 (by omega) _ _⟩)
          | false =>
            rw [hsh] at HSH
            have HV5 := Lib.hid (show sysOfF v bs = (v, sortB L, 0) by rw [HVAL.out, hsh]; rfl)
            clear hsh HVAL
            have hrow := HO5.out.row
            go_wp2_with fail
            refine HSH.out.mono ?_
            rintro e w3 ⟨rfl, hb3⟩
            have hz3 := hb3.size
            obtain ⟨e0, e1, k0, k1⟩ := GG.out
            have g0 := (hb3.cell (p := ⟨w.heap.size, 0, none⟩) (by show w.heap.size < _; omega)).trans e0
            have g1 := (hb3.cell (p := ⟨w.heap.size, 1, none⟩) (by show w.heap.size < _; omega)).trans e1
            have g2 := (hb3.frozen (p := ⟨w.heap.size, 0, none⟩) (by show w.heap.size < _; omega)).trans k0
            have g3 := (hb3.frozen (p := ⟨w.heap.size, 1, none⟩) (by show w.heap.size < _; omega)).trans k1
            have HSF := Lib.hid (systemFrom_any v w2.heap.size (.slice a5 n5 c5) L w3 (HO5.out.below hb3 (Nat.le_refl _)) hLl (by omega))
            have hB3 := hB.trans (hb3.mono hz)
            clear e0 e1 k0 k1 hb3
            go_wp2_with fail
            refine HSF.out.mono ?_
            rintro e w4 ⟨rfl, ho4, hg4⟩
            have hne : ∀ q, q < w2.heap.size → some q ≠ (Value.slice a5 n5 c5).ownBlock := fun q hq e => by have := hrow q e.symm; omega
            have y0 := hg4.cell g0 (by simpa using hne _ hlt2)
            have y1 := hg4.cell g1 (by simpa using hne _ hlt2)
            have hblk := hg4.block w.heap.size (by omega) (hne _ hlt2)
            have y2 : w4.frozen? ⟨w.heap.size, 0, none⟩ = false := (World.frozen?_of_block (a := ⟨w.heap.size, 0, none⟩) hblk).trans g2
            have y3 : w4.frozen? ⟨w.heap.size, 1, none⟩ = false := (World.frozen?_of_block (a := ⟨w.heap.size, 1, none⟩) hblk).trans g3
            have hz9 := hg4.size
            have hB9 : Below w.heap.size w w4 := (hbw2.trans (hB3.mono (by omega))).grown hg4 (by omega) (fun j e => by have := hrow j e; omega)
            have hres := ho4.res
            clear g0 g1 g2 g3 hblk ho4 hg4
            go_wp2
            have hfin := (hres.kept (gb_set2 w4 w.heap.size (.int .i64 v) (.slice a5 n5 c5)) (fun r e => by cases e; exact .inl (by omega))).wide (lo' := w.heap.size) (by omega) (gb_set2 w4 w.heap.size (.int .i64 v) (.slice a5 n5 c5)).size
            exact bodyPost_ret (v := .tuple #[.agg #[.int .i64 v, .slice a5 n5 c5], .int .i64 0]) (by simp [results, Try.results29, go_sem, *]) rfl (by rw [HV5.out]; exact ⟨_, rfl, hfin, below_set2 hB9 (by omega) _ _⟩)
    · have hval : sysOfF v bs = (0, [], 2) := by
        unfold sysOfF
        rw [show decide (bs.length ≤ 35) = false by simpa using hl]
        simp
      rw [hval]
      have hd35 : decide (35 < bs.length) = true := by simp; omega
      have hd35' : decide ((35 : Int) < (bs.length : Int)) = true := by simp; omega
      have hl' : 35 < bs.length := by omega
      clear hval hl HSB hz
      go_enter Try.func29, Try.ntmps29
      go_wp2_with (go_at_call 95; refine (HZ.out _).mono ?_; rintro e w1 ⟨rfl, rfl⟩)
      exact bodyPost_ret (v := .tuple #[.agg #[.int .i64 0, .slice none 0 0], .int .i64 2]) (by simp [results, Try.results29, go_sem, *]) rfl ⟨_, rfl, .inl ⟨rfl, _, _, rfl⟩, by first | exact below_set2 ((Below.refl _ _).alloc (Nat.le_refl _) _) (by simp) _ _ | exact (Below.refl _ _).alloc (Nat.le_refl _) _⟩
  · have hz' : (decide (3 ≤ v) && decide (v ≤ 15)) = false := by simpa using hz
    have hval : sysOfF v bs = (0, [], 2) := by
      unfold sysOfF
      rw [hz']
      simp
    rw [hval]
    rw [hz'] at HZ
    clear hval hz hz' HSB
    go_enter Try.func29, Try.ntmps29
    go_wp2_with (go_at_call 95; refine (HZ.out _).mono ?_; rintro e w1 ⟨rfl, rfl⟩)
    exact bodyPost_ret (v := .tuple #[.agg #[.int .i64 0, .slice none 0 0], .int .i64 2]) (by simp [results, Try.results29, go_sem, *]) rfl ⟨_, rfl, .inl ⟨rfl, _, _, rfl⟩, by first | exact below_set2 ((Below.refl _ _).alloc (Nat.le_refl _) _) (by simp) _ _ | exact (Below.refl _ _).alloc (Nat.le_refl _) _⟩
end Go.Proofs.Ytikegdidffjoeaa

namespace Go.Proofs.Ytikegdidffjoeaa
open Go.RowKit Go.Maps
theorem ins_start (x : Blk) (l : List Blk) : l ++ [x] = l.take l.length ++ x :: l.drop l.length := by simp
theorem ins_round (l : List Blk) {m : Nat} (hm : m < l.length) (y : Blk) : (l.take (m + 1) ++ y :: l.drop (m + 1)).set (m + 1) (l[m]?.getD default) = l.take m ++ (l[m]?.getD default) :: l.drop m := by
  have h1 : (l.take (m + 1)).length = m + 1 := by simp; omega
  rw [List.set_append_right _ _ (by omega), h1, Nat.sub_self, List.set_cons_zero]
  rw [List.getElem?_eq_getElem hm, Option.getD_some, List.take_succ_eq_append_getElem hm, List.append_assoc]
  congr 1
  rw [List.singleton_append, List.drop_eq_getElem_cons hm]
theorem ins_end (l : List Blk) {m : Nat} (hm : m ≤ l.length) (x y : Blk) : (l.take m ++ y :: l.drop m).set m x = l.take m ++ x :: l.drop m := by
  have h1 : (l.take m).length = m := by simp; omega
  rw [List.set_append_right _ _ (by omega), h1, Nat.sub_self, List.set_cons_zero]
theorem ins_len (l : List Blk) {m : Nat} (hm : m ≤ l.length) (y : Blk) : (l.take m ++ y :: l.drop m).length = l.length + 1 := by
  simp; omega
theorem ins_at (l : List Blk) {m : Nat} (hm : m < l.length) (y : Blk) : (l.take (m + 1) ++ y :: l.drop (m + 1))[m]?.getD default = l[m]?.getD default := by
  rw [List.getElem?_append_left (by simp; omega), List.getElem?_take_of_lt (by omega)]
set_option maxRecDepth 100000 in
set_option maxHeartbeats 1000000 in
theorem l01Sort_any (s : Value) (bs : List Blk) (w : World) (h : SX w s bs) (hl : bs.length ≤ 100000) :
    Calls Try.prog 172 #[s] w fun e w' => ∃ u, e = .returned u ∧ OwnR w' w.heap.size u (sortB bs) ∧ Below w.heap.size w w' := by
  have hs : ∃ a c, s = .slice a bs.length c := by rcases h with ⟨a0, c0, rfl, rfl⟩ | ⟨b, off, cap, rfl, _⟩ <;> exact ⟨_, _, rfl⟩
  have HSX := Lib.hid h
  clear h
  obtain ⟨a0, c0, rfl⟩ := hs
  go_enter Try.func172, Try.ntmps172
  go_wp2
  have ho0 := lit_own w
  obtain ⟨w0, hw0⟩ : ∃ w0, w.alloc (.cells #[] 50) = w0 := ⟨_, rfl⟩
  have hB0 : Below w.heap.size w w0 := by rw [← hw0]; exact (Below.refl _ _).alloc (Nat.le_refl _) _
  have hz0 : w.heap.size < w0.heap.size := by rw [← hw0]; simp
  rw [hw0] at ho0 ⊢
  have HO0 := Lib.hid ho0
  clear hw0 ho0
  go_loopw [3, 4] (fun o i wr => ∃ k : Nat, k ≤ bs.length ∧ i = .int .i64 k ∧ Below w.heap.size w wr ∧ OwnR wr w.heap.size o (sortB (bs.take k)) ∧ ∃ a c, o = .slice a k c) (fun _ i _ => bs.length - (intOf i).toNat)
  case atStart => exact ⟨0, Nat.zero_le _, rfl, hB0, by simpa [sortB] using HO0.out, _, _, rfl⟩
  case round =>
    obtain ⟨k, hk, rfl, hB, hO, a3, c3, rfl⟩ := hrel
    have hz := hB.size
    by_cases hkl : k < bs.length
    · rcases HSX.out with ⟨_, _, _, hnil⟩ | ⟨b, off, cap, hv, hblt, hbl⟩
      · rw [hnil] at hkl; simp at hkl
      · simp at hv
        obtain ⟨rfl, rfl⟩ := hv
        have HBL := Lib.hid hbl
        obtain ⟨x, hx, ex, x1, x2, x3⟩ := blks_at (hbl.below hB hblt) hkl
        obtain ⟨l, hl1⟩ : ∃ l, l = sortB (bs.take k) := ⟨_, rfl⟩
        have hll : l.length = k := by rw [hl1, sortB_length]; simp; omega
        have hnext : sortB (bs.take (k + 1)) = insB x l := by
          rw [List.getElem?_eq_getElem hkl] at ex
          have ex' : bs[k] = x := by simpa using ex
          rw [take_next hkl, ex', sortB_snoc, hl1]
        rw [← hl1] at hO
        have HO := Lib.hid hO
        have HNX := Lib.hid hnext
        have HLL := Lib.hid hll
        have hlen2 : l.length ≤ 100000 := by omega
        have g0 : (0 : Int) ≤ (k : Int) := by omega
        have g1 : (k : Int) < (bs.length : Int) := by omega
        have HEX := Lib.hid ex
        clear hx ex hl1 hO hnext hll hbl
        go_wp2_with (at_builtin; refine wpList_append_blk rfl _ _ rfl w.heap.size _ l rfl (HO.out.below ((Below.refl _ _).alloc (Nat.le_refl _) _) (Nat.le_refl _)) _ _ x rfl (by simp [go_sem]) (by simp [go_sem]) (by simp [go_sem]) (by omega) (by simp; omega) ?_; intro g' cap' w4 hO4 hg4)
        have hB4 : Below w.heap.size w w4 := (hB.alloc (by omega) _).grown hg4 (by simp; omega) (fun r e => HO.out.row r e)
        have HBR := Lib.hid (l01Before_any x)
        have HX := Lib.hid (show bs[k]?.getD default = x by rw [HEX.out]; rfl)
        clear hg4 x1 x2 x3
        go_loopw [5] (fun t wr2 => ∃ m : Nat, m ≤ k ∧ t = .int .i64 m ∧ Below w.heap.size w wr2 ∧ (∃ y, OwnR wr2 w.heap.size (.slice (some ⟨g', 0, none⟩) (l.length + 1) cap') (l.take m ++ y :: l.drop m)) ∧ Hid (posB x l l.length = posB x l m)) (fun t _ => (intOf t).toNat)
        case atStart => exact ⟨k, Nat.le_refl _, rfl, hB4, ⟨x, by have := hO4; rw [ins_start, HLL.out] at this; rw [HLL.out]; exact this⟩, Lib.hid (by rw [HLL.out])⟩
        case round =>
          obtain ⟨m, hm, rfl, hB2, ⟨y, hO2⟩, HP⟩ := hrel
          obtain ⟨hn0, hgb, hat⟩ := hO2.at_
          clear hn0
          have hxx := (HBL.out.below hB2 hblt) k hkl
          rw [HX.out] at hxx
          obtain ⟨x1, x2, x3⟩ := hxx
          have hglt := hat.lt
          have hz2 := hB2.size
          have hblt2 : b < wr.heap.size := by omega
          have hfree := hat.free
          have HO2 := Lib.hid hO2
          rcases m with _ | m
          · rw [show ((0 : Nat) : Int) = 0 from rfl]
            have gl1 : (0 : Int) < ((l.length + 1 : Nat) : Int) := by omega
            have gl2 : (0 : Int) < (l.length : Int) + 1 := by omega
            obtain ⟨c1, c2, c3'⟩ := hat.at_ 0 (by rw [ins_len l (Nat.zero_le _) y]; omega)
            simp only [Nat.zero_mul, Nat.zero_add] at c1 c2 c3'
            have hnew := HO2.out.set3 (i := 0) (by rw [ins_len l (Nat.zero_le _) y]; omega) x
            rw [ins_end l (Nat.zero_le _) x y] at hnew
            have hins : insB x l = l.take 0 ++ x :: l.drop 0 := by unfold insB; rw [HP.out]; rfl
            rw [← hins, ← HNX.out] at hnew
            simp only [Nat.zero_mul, Nat.zero_add] at hnew
            have HN := Lib.hid hnew
            clear hO2 hat hnew hins
            go_wp2
            go_quiet (fail)
            go_wp2
            go_roundw
            case rel => exact ⟨k + 1, by omega, by go_num, (((below_drewN hB2 _).setCell (p := ⟨g', 0, none⟩) hgb _).setCell (p := ⟨g', 1, none⟩) hgb _).setCell (p := ⟨g', 2, none⟩) hgb _, HN.out, _, _, by rw [HLL.out]⟩
            case measure => simp [intOf]; omega
          · have hml : m < l.length := by rw [HLL.out]; omega
            have hm1 : m + 1 ≤ l.length := by omega
            have gl1 : (m : Int) + 1 < ((l.length + 1 : Nat) : Int) := by omega
            have gl2 : (m : Int) + 1 < (l.length : Int) + 1 := by omega
            have gl3 : (m : Int) < ((l.length + 1 : Nat) : Int) := by omega
            have gl4 : (m : Int) < (l.length : Int) + 1 := by omega
            have gl5 : (0 : Int) < (m : Int) + 1 := by omega
            have gl6 : (0 : Int) ≤ (m : Int) := by omega
            have gl7 : (m : Int) ≤ 100000 := by omega
            have hatm := hat.at_ m (by rw [ins_len l hm1 y]; omega)
            rw [ins_at l hml y, Nat.zero_add] at hatm
            obtain ⟨c1, c2, c3'⟩ := hat.at_ (m + 1) (by rw [ins_len l hm1 y]; omega)
            rw [Nat.zero_add] at c1 c2 c3'
            obtain ⟨z, hz⟩ : ∃ z, z = l[m]?.getD default := ⟨_, rfl⟩
            have hpos : posB x l (m + 1) = if befB x (l[m]?.getD default) then posB x l m else m + 1 := rfl
            rw [← hz] at hatm hpos
            have HZ := Lib.hid hz
            have HPP := Lib.hid hpos
            obtain ⟨q1, q2, q3⟩ := hatm
            have hbr := HBR.out z
            clear hO2 hat hpos hz
            have r1 := cell_regrown x1
            have r2 := cell_regrown x2
            have r3 := cell_regrown x3
            have s1 := cell_regrown q1
            have s2 := cell_regrown q2
            have s3 := cell_regrown q3
            have t1 := cell_regrown c1
            have t2 := cell_regrown c2
            have t3 := cell_regrown c3'
            have rf : ∀ d os o, (Sort.grow (redrawn wr d) os).frozen? ⟨g', o, none⟩ = false := fun d os o => ((below_regrown wr d os).frozen (p := ⟨g', o, none⟩) hglt).trans (hfree o)
            obtain ⟨za, zb, zc⟩ := z
            obtain ⟨xa, xb, xc⟩ := x
            unfold bv at hbr
            dsimp only at hbr x1 x2 x3 q1 q2 q3 r1 r2 r3 s1 s2 s3
            cases hbe : befB ⟨xa, xb, xc⟩ ⟨za, zb, zc⟩ with
            | false =>
              rw [hbe] at hbr
              have HC := Lib.hid hbr
              have HBE := Lib.hid hbe
              clear hbr hbe
              go_wp2
              refine wp_region_quiet_below (by kernel_rfl) (by kernel_rfl) ?_
              repeat (go_big_quiet_step (exact Calls.regrown_of (HC.out _)))
              refine wpQuiet_nil ?_
              intro _ hw'
              obtain ⟨⟨dq, osq⟩, hw''⟩ := hw'
              subst hw''
              go_wp2
              have hnew := (HO2.out.below (below_regrown wr dq osq) (Nat.le_refl _)).set3 (i := m + 1) (by rw [ins_len l hm1 y]; omega) ⟨xa, xb, xc⟩
              rw [ins_end l hm1 _ y] at hnew
              have hins : insB ⟨xa, xb, xc⟩ l = l.take (m + 1) ++ ⟨xa, xb, xc⟩ :: l.drop (m + 1) := by unfold insB; rw [HP.out, HPP.out, if_neg (by rw [HBE.out]; decide)]
              rw [← hins, ← HNX.out] at hnew
              have HN := Lib.hid hnew
              clear hnew hins
              go_roundw
              case rel => exact ⟨k + 1, by omega, by go_num, (((hB2.trans ((below_regrown wr dq osq).mono hz2)).setCell (p := ⟨g', (m + 1) * 3, none⟩) hgb _).setCell (p := ⟨g', (m + 1) * 3 + 1, none⟩) hgb _).setCell (p := ⟨g', (m + 1) * 3 + 2, none⟩) hgb _, HN.out, _, _, by rw [HLL.out]⟩
              case measure => simp [intOf]; omega
            | true =>
              rw [hbe] at hbr
              have HC := Lib.hid hbr
              have HBE := Lib.hid hbe
              clear hbr hbe
              go_wp2
              refine wp_region_quiet_below (by kernel_rfl) (by kernel_rfl) ?_
              repeat (go_big_quiet_step (exact Calls.regrown_of (HC.out _)))
              refine wpQuiet_nil ?_
              intro _ hw'
              obtain ⟨⟨dq, osq⟩, hw''⟩ := hw'
              subst hw''
              go_wp2
              have hnew := (HO2.out.below (below_regrown wr dq osq) (Nat.le_refl _)).set3 (i := m + 1) (by rw [ins_len l hm1 y]; omega) ⟨za, zb, zc⟩
              have hro := ins_round l hml y
              rw [← HZ.out] at hro
              rw [hro] at hnew
              have HN := Lib.hid hnew
              clear hnew hro
              go_roundw
              case rel => exact ⟨m, by omega, rfl, (((hB2.trans ((below_regrown wr dq osq).mono hz2)).setCell (p := ⟨g', (m + 1) * 3, none⟩) hgb _).setCell (p := ⟨g', (m + 1) * 3 + 1, none⟩) hgb _).setCell (p := ⟨g', (m + 1) * 3 + 2, none⟩) hgb _, ⟨⟨za, zb, zc⟩, HN.out⟩, Lib.hid (by rw [HP.out, HPP.out, if_pos HBE.out])⟩
              case measure => simp [intOf]
    · go_wp2
      go_ret
      have e : k = bs.length := by omega
      subst e
      rw [List.take_length] at hO
      exact ⟨_, rfl, hO, hB⟩
set_option maxRecDepth 100000 in
theorem l01Made_any (v : Int) (s : Value) (bs : List Blk) (w : World) (h : SX w s bs) (hl : bs.length ≤ 100000) :
    Calls Try.prog 94 #[.int .i64 v, s] w fun e w' => ∃ u, e = .returned (.agg #[.int .i64 v, u]) ∧ ResR w' w.heap.size w'.heap.size u (sortB bs) ∧ Below w.heap.size w w' := by
  have hs : ∃ a c, s = .slice a bs.length c := by rcases h with ⟨a0, c0, rfl, rfl⟩ | ⟨b, off, cap, rfl, _⟩ <;> exact ⟨_, _, rfl⟩
  have HS := Lib.hid (l01Sort_any s bs (w.alloc (.cells #[.int .i64 0, .slice none 0 0] 26)) (h.below ((Below.refl _ _).alloc (Nat.le_refl _) _) (Nat.le_refl _)) hl)
  clear h
  obtain ⟨a0, c0, rfl⟩ := hs
  go_enter Try.func94, Try.ntmps94
  go_wp2_with fail
  refine HS.out.mono ?_
  rintro e w1 ⟨u, rfl, ho, hb1⟩
  have hlt : w.heap.size < w1.heap.size := by have := hb1.size; simp at this; omega
  have hbw : Below w.heap.size w w1 := ((Below.refl _ _).alloc (Nat.le_refl _) _).trans (hb1.mono (by simp))
  have d0 := cell_new hb1 0 rfl
  have d1 := cell_new hb1 1 rfl
  have f0 : w1.frozen? ⟨w.heap.size, 0, none⟩ = false := (hb1.frozen (p := ⟨w.heap.size, 0, none⟩) (by simp)).trans (by simp [go_sem])
  have f1 : w1.frozen? ⟨w.heap.size, 1, none⟩ = false := (hb1.frozen (p := ⟨w.heap.size, 1, none⟩) (by simp)).trans (by simp [go_sem])
  have hr := ho.res
  have hbase : (w.alloc (.cells #[.int .i64 0, .slice none 0 0] 26)).heap.size = w.heap.size + 1 := by simp
  rw [hbase] at hr
  obtain ⟨a3, n3, hs3⟩ := hr.slice
  obtain ⟨m3, hm3⟩ : ∃ m, m = (sortB bs).length := ⟨_, rfl⟩
  rw [← hm3] at hs3
  clear hm3 ho hb1 hbase
  subst hs3
  go_wp2
  exact bodyPost_ret (v := .agg #[.int .i64 v, .slice a3 m3 n3]) (by simp [results, Try.results94, go_sem, *]) rfl ⟨_, rfl, (hr.kept (gb_set2 w1 w.heap.size (.int .i64 v) (.slice a3 m3 n3)) (fun r e => by cases e; exact .inl (by omega))).wide (by omega) (by simp [World.setCell]), below_set2 hbw (by omega) _ _⟩
end Go.Proofs.Ytikegdidffjoeaa

namespace Go.Proofs.Ytikegdidffjoeaa
open Go.RowKit Go.Maps
set_option maxRecDepth 100000 in
theorem l01Block_any (a b c : Int) (w : World) (a0 : 0 ≤ a) (a1 : a ≤ 1000) (b0 : 0 ≤ b) (b1 : b ≤ 1000) (c0 : 0 ≤ c) (c1 : c ≤ 1000) : Calls Try.prog 92 #[.int .i64 a, .int .i64 b, .int .i64 c] w (RV (bv (blk3 a b c)) w) := by
  go_enter Try.func92, Try.ntmps92
  go_wp2
  all_goals
    refine bodyPost_ret (v := bv (blk3 a b c)) ?_ rfl ⟨rfl, (Below.refl _ _).alloc (Nat.le_refl _) _⟩
    simp [results, Try.results92, go_sem, bv, blk3]
    omega
end Go.Proofs.Ytikegdidffjoeaa

namespace Go.Proofs.Ytikegdidffjoeaa
open Go.RowKit Go.Maps
theorem l01Block_is {a b c p q r : Int} (W : World) (a0 : 0 ≤ a) (a1 : a ≤ 1000) (b0 : 0 ≤ b) (b1 : b ≤ 1000) (c0 : 0 ≤ c) (c1 : c ≤ 1000) (hp : p = min (min a b) c) (hr : r = max (max a b) c) (hq : q = a + b + c - p - r) :
    Calls Try.prog 92 #[.int .i64 a, .int .i64 b, .int .i64 c] W (RV (.agg #[.int .i64 p, .int .i64 q, .int .i64 r]) W) := by
  have h := l01Block_any a b c W a0 a1 b0 b1 c0 c1
  rw [blk3_of hp hr hq] at h
  exact h
end Go.Proofs.Ytikegdidffjoeaa

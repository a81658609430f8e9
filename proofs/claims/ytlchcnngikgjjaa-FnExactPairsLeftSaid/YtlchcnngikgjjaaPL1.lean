
/- The program's PairsLeft. -/
import Derived.Test.YtlchcnngikgjjaaSS2
import Derived.Test.YtlchcnngikgjjaaPairsIn
import Derived.Test.YtlchcnngikgjjaaIsSys
namespace Go.Proofs.Ytlchcnngikgjjaa
open Go.RowKit Go.Maps
/-- The pairs (a, b), b among the next n, that P lets through; then those of the rows before a. -/
def rowL (P : Int → Int → Bool) (a : Nat) : Nat → List (Int × Int)
  | 0 => []
  | n + 1 => rowL P a n ++ if P a ((a : Int) + 1 + n) then [((a : Int), (a : Int) + 1 + n)] else []
def leftL (P : Int → Int → Bool) (v : Nat) : Nat → List (Int × Int)
  | 0 => []
  | a + 1 => leftL P v a ++ rowL P a (v - 1 - a)
theorem rowL_len (P : Int → Int → Bool) (a n : Nat) : (rowL P a n).length ≤ n := by
  induction n with
  | zero => simp [rowL]
  | succ n ih =>
    unfold rowL
    rw [List.length_append]
    split <;> simp <;> omega
theorem leftL_len (P : Int → Int → Bool) (v a : Nat) : (leftL P v a).length ≤ a * v := by
  induction a with
  | zero => simp [leftL]
  | succ a ih =>
    unfold leftL
    rw [List.length_append, Nat.succ_mul]
    have := rowL_len P a (v - 1 - a)
    omega
theorem rowL_congr {P Q : Int → Int → Bool} {a : Nat} : ∀ n : Nat, (∀ b : Int, (a : Int) < b → b ≤ a + n → P a b = Q a b) → rowL P a n = rowL Q a n
  | 0, _ => rfl
  | n + 1, h => by
    unfold rowL
    rw [rowL_congr n (fun b h1 h2 => h b h1 (by omega)), h ((a : Int) + 1 + n) (by omega) (by omega)]
theorem leftL_congr {P Q : Int → Int → Bool} {v : Nat} : ∀ a : Nat, a ≤ v → (∀ a' b : Int, 0 ≤ a' → a' < b → b < v → P a' b = Q a' b) → leftL P v a = leftL Q v a
  | 0, _, _ => rfl
  | a + 1, ha, h => by
    unfold leftL
    rw [leftL_congr a (by omega) h, rowL_congr _ (fun b h1 h2 => h a b (by omega) h1 (by omega))]
def fnL (L : List (Int × Int)) (k : Nat) : List Int := let p := L[k]?.getD (0, 0); [p.1, p.2]
theorem fnL_len (L : List (Int × Int)) (k : Nat) : (fnL L k).length = 2 := rfl
theorem fnL_lt {L L' : List (Int × Int)} {k : Nat} (h : k < L.length) : fnL L k = fnL (L ++ L') k := by
  unfold fnL
  rw [List.getElem?_append_left h]
theorem fnL_at (L : List (Int × Int)) (p : Int × Int) : fnL (L ++ [p]) L.length = [p.1, p.2] := by simp [fnL]
theorem AccS.congr {w : World} {base : Nat} {u : Value} {n : Nat} {gs caps : Nat → Nat} {F F' : Nat → List Int} (h : AccS w base u n gs caps F) (e : ∀ k, k < n → F k = F' k) : AccS w base u n gs caps F' := by
  refine ⟨?_, fun k hk => by rw [← e k hk]; exact h.row k hk, h.ne, h.inc, h.low⟩
  have he : (List.range n).map (rowV gs caps F') = (List.range n).map (rowV gs caps F) := map_congr' fun k hk => by
    have := e k (List.mem_range.1 hk)
    simp [rowV, this]
  rw [he]
  exact h.own
theorem AccS.base {w : World} {base base' : Nat} {u : Value} {n : Nat} {gs caps : Nat → Nat} {F : Nat → List Int} (h : AccS w base u n gs caps F) (hb : base' ≤ base) : AccS w base' u n gs caps F :=
  ⟨ownsRow_base h.own hb, h.row, h.ne, h.inc, fun k hk => Nat.le_trans hb (h.low k hk)⟩
theorem wf_pl {n : Int} (h0 : 0 ≤ n) (h1 : n ≤ 1000) : WF n := by
  have : n = wrap64 n := by unfold wrap64; omega
  unfold WF
  rw [this]
  exact wrap64_wf _
def notIn (seen : List (Int × Int)) (a b : Int) : Bool := !decide ((a, b) ∈ seen)
theorem two_own (w : World) (x y : Int) (T : TypeId) : OwnAtI (w.alloc (.cells #[.int .i64 x, .int .i64 y] T)) w.heap.size [x, y] := by
  refine ⟨by simp, fun k hk => ?_, fun o => by simp⟩
  rw [World.cell?_alloc_at _ _ _ _ rfl]
  match k, hk with
  | 0, _ => rfl
  | 1, _ => rfl
set_option maxRecDepth 100000 in
set_option maxHeartbeats 1000000 in
theorem PairsLeft_main (vn : Nat) (s : Value) (bs : List Blk) (w : World) (h : SB w s bs) (hi : isSysImpl (vn : Int) bs = true) :
    Calls Try.prog 48 #[.agg #[.int .i64 (vn : Int), s]] w fun e w' => ∃ u gs caps, e = .returned (.tuple #[u, .int .i64 0]) ∧ Below w.heap.size w w' ∧ AccS w' w.heap.size u (leftL (notIn (bs.flatMap pairsL)) vn vn).length gs caps (fnL (leftL (notIn (bs.flatMap pairsL)) vn vn)) := by
  have hs := h.slice
  have HI := Lib.hid fun W (hb : Below w.heap.size w W) => IsSystem_any (vn : Int) s bs W (h.below hb (Nat.le_refl _))
  rw [hi] at HI
  obtain ⟨hv3, hv15, hb35⟩ := sys_size hi
  have HP := Lib.hid fun W (hb : Below w.heap.size w W) => pairsIn_any s bs W (h.below hb (Nat.le_refl _)) (by omega)
  obtain ⟨seen, hseen⟩ : ∃ l, l = bs.flatMap pairsL := ⟨_, rfl⟩
  rw [← hseen] at HP ⊢
  clear h hi hseen
  obtain ⟨a0, c0, rfl⟩ := hs
  go_enter Try.func48, Try.ntmps48
  go_wp2_with fail
  refine (HI.out _ ((Below.refl _ _).alloc (Nat.le_refl _) _)).mono ?_
  rintro e w1 ⟨rfl, hb1⟩
  have q0 := cell_new hb1 0 rfl
  have q1 := cell_new hb1 1 rfl
  have hlt1 := lt_new hb1
  have hbw := below_new hb1
  clear hb1
  go_wp2_with fail
  refine (HP.out _ hbw).mono ?_
  rintro e w2 ⟨rfl, hS, hb2⟩
  have q0 := (hb2.cell (p := ⟨w.heap.size, 0, none⟩) hlt1).trans q0
  have hlt2 := hS.lt
  have hbw2 := hbw.trans (hb2.mono (Nat.le_of_lt hlt1))
  have hz2 := hb2.size
  have HS2 := Lib.hid hS
  have hm : ∀ (β : Bool) (p : Int × Int), Hid (β = true ↔ pv p ∈ seen.map pv) → (β = true ↔ p ∈ seen) := fun β p h => h.out.trans ⟨fun h => by obtain ⟨q, hq, e⟩ := List.mem_map.1 h; rw [← pv_inj e]; exact hq, fun h => List.mem_map.2 ⟨p, h, rfl⟩⟩
  have HM := Lib.hid hm
  clear hm hS hb2
  go_wp2_with fail
  go_loopw [5, 16] (fun o t wr => ∃ (k : Nat) (gs caps : Nat → Nat), k ≤ vn ∧ t = .int .i64 k ∧ Below w2.heap.size w2 wr ∧ AccS wr w2.heap.size o (leftL (notIn seen) vn k).length gs caps (fnL (leftL (notIn seen) vn k)) ∧ ∃ a c, o = .slice a (leftL (notIn seen) vn k).length c) (fun _ t _ => vn - (intOf t).toNat)
  case atStart => exact ⟨0, fun _ => 0, fun _ => 0, Nat.zero_le _, rfl, Below.refl _ _, AccS.nil _ _ _ _ _, _, _, rfl⟩
  case round =>
    obtain ⟨k, gs, caps, hk, rfl, hB, hA, a3, c3, rfl⟩ := hrel
    obtain ⟨W0, rfl⟩ : ∃ W0, W0 = wr := ⟨_, rfl⟩
    have hz := hB.size
    have r0 := (hB.cell (p := ⟨w.heap.size, 0, none⟩) (by show w.heap.size < _; omega)).trans q0
    have hlen0 := leftL_len (notIn seen) vn k
    have hlenb : k * vn ≤ 225 := by
      have h1 : k * vn ≤ 15 * 15 := Nat.mul_le_mul (by omega) (by omega)
      omega
    have HA := Lib.hid hA
    clear hA
    by_cases hkl : k < vn
    · have g0 : (0 : Int) ≤ (k : Int) := by omega
      have g1 : (k : Int) < (vn : Int) := by omega
      go_wp2_with fail
      go_loopw [5, 7] (fun o t wx => ∃ (j : Nat) (gs caps : Nat → Nat), j ≤ vn - 1 - k ∧ t = .int .i64 ((k : Int) + 1 + j) ∧ Below w2.heap.size w2 wx ∧ AccS wx w2.heap.size o (leftL (notIn seen) vn k ++ rowL (notIn seen) k j).length gs caps (fnL (leftL (notIn seen) vn k ++ rowL (notIn seen) k j)) ∧ ∃ a c, o = .slice a (leftL (notIn seen) vn k ++ rowL (notIn seen) k j).length c) (fun _ t _ => (vn - intOf t).toNat)
      case atStart => exact ⟨0, gs, caps, Nat.zero_le _, by simp, hB, by simpa [rowL] using HA.out, a3, c3, by simp [rowL]⟩
      case round =>
        obtain ⟨j, gs', caps', hj, rfl, hb, hA', a4, c4, rfl⟩ := hrel
        have hzx := hb.size
        have s0 := (hb.cell (p := ⟨w.heap.size, 0, none⟩) (by show w.heap.size < _; omega)).trans q0
        have hlen1 := rowL_len (notIn seen) k j
        obtain ⟨L, hL⟩ : ∃ L, L = leftL (notIn seen) vn k ++ rowL (notIn seen) k j := ⟨_, rfl⟩
        have hLl : L.length ≤ 1000 := by rw [hL, List.length_append]; omega
        have hsucc : leftL (notIn seen) vn k ++ rowL (notIn seen) k (j + 1) = L ++ if notIn seen (k : Int) ((k : Int) + 1 + j) then [((k : Int), (k : Int) + 1 + j)] else [] := by
          rw [hL, List.append_assoc]; rfl
        rw [← hL] at hA' ⊢
        have HSU := Lib.hid hsucc
        have HA' := Lib.hid hA'
        have HL := Lib.hid hL
        clear hA' hsucc hL
        by_cases hjl : (k : Int) + 1 + j < vn
        · have HSx := Lib.hid (HS2.out.below hb hlt2)
          obtain ⟨k1, hk1⟩ := pv_key (a := (k : Int)) (b := (k : Int) + 1 + j) (wf_pl (by omega) (by omega)) (wf_pl (by omega) (by omega))
          have HK1 := Lib.hid hk1
          clear hk1
          by_cases hmem : ((k : Int), (k : Int) + 1 + (j : Int)) ∈ seen
          · have hno : notIn seen (k : Int) ((k : Int) + 1 + j) = false := by simp [notIn, hmem]
            have HMEM := Lib.hid hmem
            have e : leftL (notIn seen) vn k ++ rowL (notIn seen) k (j + 1) = L := by rw [HSU.out, hno]; simp
            have E := Lib.hid e
            clear e hno hmem
            go_wp2_with (at_lookup; refine wpList_look_set _ rfl _ _ 113 rfl 116 4 pairKeyed Try.underlying113 Try.underlying4 (zeroBool _) w1.heap.size (3 * bs.length) (seen.map pv) rfl HSx.out (pv ((k : Int), (k : Int) + 1 + j)) k1 rfl HK1.out ?_; intro β1 hβ1; obtain rfl : β1 = true := (HM.out _ _ hβ1).2 HMEM.out)
            go_roundw
            case rel => exact ⟨j + 1, gs', caps', by omega, by go_num, hb, by rw [E.out]; exact HA'.out, a4, c4, by rw [E.out]⟩
            case measure => simp [intOf]; omega
          · have hno : notIn seen (k : Int) ((k : Int) + 1 + j) = true := by simp [notIn, hmem]
            have HMEM := Lib.hid hmem
            have e : leftL (notIn seen) vn k ++ rowL (notIn seen) k (j + 1) = L ++ [((k : Int), (k : Int) + 1 + j)] := by rw [HSU.out, hno]; simp
            have E := Lib.hid e
            have hrow : OwnAtI (wr.alloc (.cells #[.int .i64 (k : Int), .int .i64 ((k : Int) + 1 + j)] 2)) wr.heap.size (fnL (L ++ [((k : Int), (k : Int) + 1 + j)]) L.length) := by
              rw [fnL_at]; exact two_own wr _ _ _
            have HROW := Lib.hid hrow
            have hlt := ownsRow_lt HA'.out.own
            have HACC := Lib.hid (HA'.out.congr (F' := fnL (L ++ [((k : Int), (k : Int) + 1 + j)])) (fun q hq => fnL_lt hq))
            have HGT := Lib.hid (show ∀ q, q < L.length → gs' q < wr.heap.size from fun q hq => (HA'.out.row q hq).lt)
            have HNG := Lib.hid (show (Value.slice a4 L.length c4).ownBlock ≠ some wr.heap.size from fun e => by have := hlt _ e; omega)
            have HLOW := Lib.hid (show ∀ r, (Value.slice a4 L.length c4).ownBlock = some r → w2.heap.size ≤ r from fun r e => (hlt r e).1)
            clear e hno hrow hlt hmem
            go_wp2_with (first | (at_lookup; refine wpList_look_set _ rfl _ _ 113 rfl 116 4 pairKeyed Try.underlying113 Try.underlying4 (zeroBool _) w1.heap.size (3 * bs.length) (seen.map pv) rfl HSx.out (pv ((k : Int), (k : Int) + 1 + j)) k1 rfl HK1.out ?_; intro β1 hβ1; obtain rfl : β1 = false := Bool.eq_false_iff.2 (fun h => HMEM.out ((HM.out _ _ hβ1).1 h))) | (at_builtin; refine wpList_append_row rfl _ _ rfl w2.heap.size _ L.length gs' caps' (fnL (L ++ [((k : Int), (k : Int) + 1 + j)])) rfl (HACC.out.below (((Below.refl _ _).alloc (Nat.le_refl _) _).alloc (by simp) _) (Nat.le_refl _)) _ _ rfl wr.heap.size 2 (by rw [fnL_len]; simp [go_sem]) (HROW.out.kept (World.grownBy_alloc _ _ none) (by simp)) HGT.out HNG.out hzx (by omega) (by simp; omega) ?_; intro G cap w4 gs4 caps4 hA4 hg4))
            have hB4 := ((hb.alloc hzx (.cells #[.int .i64 (k : Int), .int .i64 ((k : Int) + 1 + j)] 2)).alloc (by simp; omega) (.cells #[.slice (some ⟨wr.heap.size, 0, none⟩) 2 2] 36)).grown hg4 (by simp; omega) HLOW.out
            go_roundw
            case rel => exact ⟨j + 1, gs4, caps4, by omega, by go_num, hB4, by rw [E.out, List.length_append, List.length_singleton]; exact hA4, _, _, by rw [E.out, List.length_append, List.length_singleton]⟩
            case measure => simp [intOf]; omega
        · have ej : j = vn - 1 - k := by omega
          have e : leftL (notIn seen) vn (k + 1) = L := by rw [HL.out, ej]; rfl
          have E := Lib.hid e
          clear e
          go_wp2_with fail
          go_roundw
          case rel => exact ⟨k + 1, gs', caps', by omega, by go_num, hb, by rw [E.out]; exact HA'.out, a4, c4, by rw [E.out]⟩
          case measure => simp [intOf]; omega
    · have e : k = vn := by omega
      subst e
      go_wp2
      go_ret2
      exact ⟨_, gs, caps, rfl, hbw2.trans (hB.mono (by omega)), HA.out.base (by omega)⟩
end Go.Proofs.Ytlchcnngikgjjaa

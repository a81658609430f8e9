
/- The program's PairsLeft. Blocks in ascending order: plain facts. Plain facts on trades, without the program. The leave degrees, plain. impl.SquareOf makes the square of its number. The model's squares. PairsLeft: the program and the model answer alike. The laws' copies of rows of integers, and how much they hold. -/
import Derived.Test.YtiomdfhhejdoiaaJ4
namespace Go.Proofs.Ytiomdfhhejdoiaa
open Go.RowKit Go.Maps
/-- The pairs (a, b), b among the next n, that P lets through; then those of the rows before a. -/
def rowL (P : Int → Int → Bool) (a : Nat) : Nat → List (Int × Int)
  | 0 => []
  | n + 1 => rowL P a n ++ if P a ((a : Int) + 1 + n) then [((a : Int), (a : Int) + 1 + n)] else []
def leftL (P : Int → Int → Bool) (v : Nat) : Nat → List (Int × Int)
  | 0 => []
  | a + 1 => leftL P v a ++ rowL P a (v - 1 - a)
theorem rowL_len (P : Int → Int → Bool) (a n : Nat) : (rowL P a n).length ≤ n := by
  induction n with
  | zero => simp [rowL]
  | succ n ih =>
    unfold rowL
    rw [List.length_append]
    split <;> simp <;> omega
theorem leftL_len (P : Int → Int → Bool) (v a : Nat) : (leftL P v a).length ≤ a * v := by
  induction a with
  | zero => simp [leftL]
  | succ a ih =>
    unfold leftL
    rw [List.length_append, Nat.succ_mul]
    have := rowL_len P a (v - 1 - a)
    omega
theorem rowL_congr {P Q : Int → Int → Bool} {a : Nat} : ∀ n : Nat, (∀ b : Int, (a : Int) < b → b ≤ a + n → P a b = Q a b) → rowL P a n = rowL Q a n
  | 0, _ => rfl
  | n + 1, h => by
    unfold rowL
    rw [rowL_congr n (fun b h1 h2 => h b h1 (by omega)), h ((a : Int) + 1 + n) (by omega) (by omega)]
theorem leftL_congr {P Q : Int → Int → Bool} {v : Nat} : ∀ a : Nat, a ≤ v → (∀ a' b : Int, 0 ≤ a' → a' < b → b < v → P a' b = Q a' b) → leftL P v a = leftL Q v a
  | 0, _, _ => rfl
  | a + 1, ha, h => by
    unfold leftL
    rw [leftL_congr a (by omega) h, rowL_congr _ (fun b h1 h2 => h a b (by omega) h1 (by omega))]
def fnL (L : List (Int × Int)) (k : Nat) : List Int := let p := L[k]?.getD (0, 0); [p.1, p.2]
theorem fnL_len (L : List (Int × Int)) (k : Nat) : (fnL L k).length = 2 := rfl
theorem fnL_lt {L L' : List (Int × Int)} {k : Nat} (h : k < L.length) : fnL L k = fnL (L ++ L') k := by
  unfold fnL
  rw [List.getElem?_append_left h]
theorem fnL_at (L : List (Int × Int)) (p : Int × Int) : fnL (L ++ [p]) L.length = [p.1, p.2] := by simp [fnL]
theorem AccS.congr {w : World} {base : Nat} {u : Value} {n : Nat} {gs caps : Nat → Nat} {F F' : Nat → List Int} (h : AccS w base u n gs caps F) (e : ∀ k, k < n → F k = F' k) : AccS w base u n gs caps F' := by
  refine ⟨?_, fun k hk => by rw [← e k hk]; exact h.row k hk, h.ne, h.inc, h.low⟩
  have he : (List.range n).map (rowV gs caps F') = (List.range n).map (rowV gs caps F) := map_congr' fun k hk => by
    have := e k (List.mem_range.1 hk)
    simp [rowV, this]
  rw [he]
  exact h.own
theorem AccS.base {w : World} {base base' : Nat} {u : Value} {n : Nat} {gs caps : Nat → Nat} {F : Nat → List Int} (h : AccS w base u n gs caps F) (hb : base' ≤ base) : AccS w base' u n gs caps F :=
  ⟨ownsRow_base h.own hb, h.row, h.ne, h.inc, fun k hk => Nat.le_trans hb (h.low k hk)⟩
theorem wf_pl {n : Int} (h0 : 0 ≤ n) (h1 : n ≤ 1000) : WF n := by
  have : n = wrap64 n := by unfold wrap64; omega
  unfold WF
  rw [this]
  exact wrap64_wf _
def notIn (seen : List (Int × Int)) (a b : Int) : Bool := !decide ((a, b) ∈ seen)
theorem two_own (w : World) (x y : Int) (T : TypeId) : OwnAtI (w.alloc (.cells #[.int .i64 x, .int .i64 y] T)) w.heap.size [x, y] := by
  refine ⟨by simp, fun k hk => ?_, fun o => by simp⟩
  rw [World.cell?_alloc_at _ _ _ _ rfl]
  match k, hk with
  | 0, _ => rfl
  | 1, _ => rfl
set_option maxRecDepth 100000 in
set_option maxHeartbeats 1000000 in
theorem PairsLeft_main (vn : Nat) (s : Value) (bs : List Blk) (w : World) (h : SB w s bs) (hi : isSysImpl (vn : Int) bs = true) :
    Calls Try.prog 48 #[.agg #[.int .i64 (vn : Int), s]] w fun e w' => ∃ u gs caps, e = .returned (.tuple #[u, .int .i64 0]) ∧ Below w.heap.size w w' ∧ AccS w' w.heap.size u (leftL (notIn (bs.flatMap pairsL)) vn vn).length gs caps (fnL (leftL (notIn (bs.flatMap pairsL)) vn vn)) := by
  have hs := h.slice
  have HI := Lib.hid fun W (hb : Below w.heap.size w W) => IsSystem_any (vn : Int) s bs W (h.below hb (Nat.le_refl _))
  rw [hi] at HI
  obtain ⟨hv3, hv15, hb35⟩ := sys_size hi
  have HP := Lib.hid fun W (hb : Below w.heap.size w W) => pairsIn_any s bs W (h.below hb (Nat.le_refl _)) (by omega)
  obtain ⟨seen, hseen⟩ : ∃ l, l = bs.flatMap pairsL := ⟨_, rfl⟩
  rw [← hseen] at HP ⊢
  clear h hi hseen
  obtain ⟨a0, c0, rfl⟩ := hs
  go_enter Try.func48, Try.ntmps48
  go_wp2_with fail
  refine (HI.out _ ((Below.refl _ _).alloc (Nat.le_refl _) _)).mono ?_
  rintro e w1 ⟨rfl, hb1⟩
  have q0 := cell_new hb1 0 rfl
  have q1 := cell_new hb1 1 rfl
  have hlt1 := lt_new hb1
  have hbw := below_new hb1
  clear hb1
  go_wp2_with fail
  refine (HP.out _ hbw).mono ?_
  rintro e w2 ⟨rfl, hS, hb2⟩
  have q0 := (hb2.cell (p := ⟨w.heap.size, 0, none⟩) hlt1).trans q0
  have hlt2 := hS.lt
  have hbw2 := hbw.trans (hb2.mono (Nat.le_of_lt hlt1))
  have hz2 := hb2.size
  have HS2 := Lib.hid hS
  have hm : ∀ (β : Bool) (p : Int × Int), Hid (β = true ↔ pv p ∈ seen.map pv) → (β = true ↔ p ∈ seen) := fun β p h => h.out.trans ⟨fun h => by obtain ⟨q, hq, e⟩ := List.mem_map.1 h; rw [← pv_inj e]; exact hq, fun h => List.mem_map.2 ⟨p, h, rfl⟩⟩
  have HM := Lib.hid hm
  clear hm hS hb2
  go_wp2_with fail
  go_loopw [5, 16] (fun o t wr => ∃ (k : Nat) (gs caps : Nat → Nat), k ≤ vn ∧ t = .int .i64 k ∧ Below w2.heap.size w2 wr ∧ AccS wr w2.heap.size o (leftL (notIn seen) vn k).length gs caps (fnL (leftL (notIn seen) vn k)) ∧ ∃ a c, o = .slice a (leftL (notIn seen) vn k).length c) (fun _ t _ => vn - (intOf t).toNat)
  case atStart => exact ⟨0, fun _ => 0, fun _ => 0, Nat.zero_le _, rfl, Below.refl _ _, AccS.nil _ _ _ _ _, _, _, rfl⟩
  case round =>
    obtain ⟨k, gs, caps, hk, rfl, hB, hA, a3, c3, rfl⟩ := hrel
    obtain ⟨W0, rfl⟩ : ∃ W0, W0 = wr := ⟨_, rfl⟩
    have hz := hB.size
    have r0 := (hB.cell (p := ⟨w.heap.size, 0, none⟩) (by show w.heap.size < _; omega)).trans q0
    have hlen0 := leftL_len (notIn seen) vn k
    have hlenb : k * vn ≤ 225 := by
      have h1 : k * vn ≤ 15 * 15 := Nat.mul_le_mul (by omega) (by omega)
      omega
    have HA := Lib.hid hA
    clear hA
    by_cases hkl : k < vn
    · have g0 : (0 : Int) ≤ (k : Int) := by omega
      have g1 : (k : Int) < (vn : Int) := by omega
      go_wp2_with fail
      go_loopw [5, 7] (fun o t wx => ∃ (j : Nat) (gs caps : Nat → Nat), j ≤ vn - 1 - k ∧ t = .int .i64 ((k : Int) + 1 + j) ∧ Below w2.heap.size w2 wx ∧ AccS wx w2.heap.size o (leftL (notIn seen) vn k ++ rowL (notIn seen) k j).length gs caps (fnL (leftL (notIn seen) vn k ++ rowL (notIn seen) k j)) ∧ ∃ a c, o = .slice a (leftL (notIn seen) vn k ++ rowL (notIn seen) k j).length c) (fun _ t _ => (vn - intOf t).toNat)
      case atStart => exact ⟨0, gs, caps, Nat.zero_le _, by simp, hB, by simpa [rowL] using HA.out, a3, c3, by simp [rowL]⟩
      case round =>
        obtain ⟨j, gs', caps', hj, rfl, hb, hA', a4, c4, rfl⟩ := hrel
        have hzx := hb.size
        have s0 := (hb.cell (p := ⟨w.heap.size, 0, none⟩) (by show w.heap.size < _; omega)).trans q0
        have hlen1 := rowL_len (notIn seen) k j
        obtain ⟨L, hL⟩ : ∃ L, L = leftL (notIn seen) vn k ++ rowL (notIn seen) k j := ⟨_, rfl⟩
        have hLl : L.length ≤ 1000 := by rw [hL, List.length_append]; omega
        have hsucc : leftL (notIn seen) vn k ++ rowL (notIn seen) k (j + 1) = L ++ if notIn seen (k : Int) ((k : Int) + 1 + j) then [((k : Int), (k : Int) + 1 + j)] else [] := by
          rw [hL, List.append_assoc]; rfl
        rw [← hL] at hA' ⊢
        have HSU := Lib.hid hsucc
        have HA' := Lib.hid hA'
        have HL := Lib.hid hL
        clear hA' hsucc hL
        by_cases hjl : (k : Int) + 1 + j < vn
        · have HSx := Lib.hid (HS2.out.below hb hlt2)
          obtain ⟨k1, hk1⟩ := pv_key (a := (k : Int)) (b := (k : Int) + 1 + j) (wf_pl (by omega) (by omega)) (wf_pl (by omega) (by omega))
          have HK1 := Lib.hid hk1
          clear hk1
          by_cases hmem : ((k : Int), (k : Int) + 1 + (j : Int)) ∈ seen
          · have hno : notIn seen (k : Int) ((k : Int) + 1 + j) = false := by simp [notIn, hmem]
            have HMEM := Lib.hid hmem
            have e : leftL (notIn seen) vn k ++ rowL (notIn seen) k (j + 1) = L := by rw [HSU.out, hno]; simp
            have E := Lib.hid e
            clear e hno hmem
            go_wp2_with (at_lookup; refine wpList_look_set _ rfl _ _ 71 rfl 75 4 pairKeyed Try.underlying71 Try.underlying4 (zeroBool _) w1.heap.size (3 * bs.length) (seen.map pv) rfl HSx.out (pv ((k : Int), (k : Int) + 1 + j)) k1 rfl HK1.out ?_; intro β1 hβ1; obtain rfl : β1 = true := (HM.out _ _ hβ1).2 HMEM.out)
            go_roundw
            case rel => exact ⟨j + 1, gs', caps', by omega, by go_num, hb, by rw [E.out]; exact HA'.out, a4, c4, by rw [E.out]⟩
            case measure => simp [intOf]; omega
          · have hno : notIn seen (k : Int) ((k : Int) + 1 + j) = true := by simp [notIn, hmem]
            have HMEM := Lib.hid hmem
            have e : leftL (notIn seen) vn k ++ rowL (notIn seen) k (j + 1) = L ++ [((k : Int), (k : Int) + 1 + j)] := by rw [HSU.out, hno]; simp
            have E := Lib.hid e
            have hrow : OwnAtI (wr.alloc (.cells #[.int .i64 (k : Int), .int .i64 ((k : Int) + 1 + j)] 2)) wr.heap.size (fnL (L ++ [((k : Int), (k : Int) + 1 + j)]) L.length) := by
              rw [fnL_at]; exact two_own wr _ _ _
            have HROW := Lib.hid hrow
            have hlt := ownsRow_lt HA'.out.own
            have HACC := Lib.hid (HA'.out.congr (F' := fnL (L ++ [((k : Int), (k : Int) + 1 + j)])) (fun q hq => fnL_lt hq))
            have HGT := Lib.hid (show ∀ q, q < L.length → gs' q < wr.heap.size from fun q hq => (HA'.out.row q hq).lt)
            have HNG := Lib.hid (show (Value.slice a4 L.length c4).ownBlock ≠ some wr.heap.size from fun e => by have := hlt _ e; omega)
            have HLOW := Lib.hid (show ∀ r, (Value.slice a4 L.length c4).ownBlock = some r → w2.heap.size ≤ r from fun r e => (hlt r e).1)
            clear e hno hrow hlt hmem
            go_wp2_with (first | (at_lookup; refine wpList_look_set _ rfl _ _ 71 rfl 75 4 pairKeyed Try.underlying71 Try.underlying4 (zeroBool _) w1.heap.size (3 * bs.length) (seen.map pv) rfl HSx.out (pv ((k : Int), (k : Int) + 1 + j)) k1 rfl HK1.out ?_; intro β1 hβ1; obtain rfl : β1 = false := Bool.eq_false_iff.2 (fun h => HMEM.out ((HM.out _ _ hβ1).1 h))) | (at_builtin; refine wpList_append_row rfl _ _ rfl w2.heap.size _ L.length gs' caps' (fnL (L ++ [((k : Int), (k : Int) + 1 + j)])) rfl (HACC.out.below (((Below.refl _ _).alloc (Nat.le_refl _) _).alloc (by simp) _) (Nat.le_refl _)) _ _ rfl wr.heap.size 2 (by rw [fnL_len]; simp [go_sem]) (HROW.out.kept (World.grownBy_alloc _ _ none) (by simp)) HGT.out HNG.out hzx (by omega) (by simp; omega) ?_; intro G cap w4 gs4 caps4 hA4 hg4))
            have hB4 := ((hb.alloc hzx (.cells #[.int .i64 (k : Int), .int .i64 ((k : Int) + 1 + j)] 2)).alloc (by simp; omega) (.cells #[.slice (some ⟨wr.heap.size, 0, none⟩) 2 2] 26)).grown hg4 (by simp; omega) HLOW.out
            go_roundw
            case rel => exact ⟨j + 1, gs4, caps4, by omega, by go_num, hB4, by rw [E.out, List.length_append, List.length_singleton]; exact hA4, _, _, by rw [E.out, List.length_append, List.length_singleton]⟩
            case measure => simp [intOf]; omega
        · have ej : j = vn - 1 - k := by omega
          have e : leftL (notIn seen) vn (k + 1) = L := by rw [HL.out, ej]; rfl
          have E := Lib.hid e
          clear e
          go_wp2_with fail
          go_roundw
          case rel => exact ⟨k + 1, gs', caps', by omega, by go_num, hb, by rw [E.out]; exact HA'.out, a4, c4, by rw [E.out]⟩
          case measure => simp [intOf]; omega
    · have e : k = vn := by omega
      subst e
      go_wp2
      go_ret2
      exact ⟨_, gs, caps, rfl, hbw2.trans (hB.mono (by omega)), HA.out.base (by omega)⟩
end Go.Proofs.Ytiomdfhhejdoiaa

namespace Go.Proofs.Ytiomdfhhejdoiaa
theorem bef_iff (x y : Blk) : befB x y = true ↔ x.a < y.a ∨ (x.a = y.a ∧ (x.b < y.b ∨ (x.b = y.b ∧ x.c < y.c))) := by
  unfold befB
  split
  · split
    · simp; omega
    · simp; omega
  · simp; omega
theorem bef_niff (x y : Blk) : befB x y = false ↔ ¬ (x.a < y.a ∨ (x.a = y.a ∧ (x.b < y.b ∨ (x.b = y.b ∧ x.c < y.c)))) := by
  rw [← bef_iff]; simp
theorem bef_irrefl (x : Blk) : befB x x = false := by rw [bef_niff]; omega
theorem bef_trans {x y z : Blk} (h1 : befB x y = true) (h2 : befB y z = true) : befB x z = true := by
  rw [bef_iff] at *; omega
theorem bef_ntrans {x y z : Blk} (h1 : befB x y = false) (h2 : befB y z = false) : befB x z = false := by
  rw [bef_niff] at *; omega
theorem bef_asymm {x y : Blk} (h : befB x y = true) : befB y x = false := by
  rw [bef_niff]; rw [bef_iff] at h; omega
theorem bef_total {x y : Blk} (h1 : befB x y = false) (h2 : befB y x = false) : x = y := by
  rw [bef_niff] at h1 h2
  obtain ⟨a, b, c⟩ := x
  obtain ⟨d, e, f⟩ := y
  simp only at h1 h2
  simp only [Blk.mk.injEq]
  omega
/-- No block stands behind a greater one. -/
def Srt (l : List Blk) : Prop := l.Pairwise fun x y => befB y x = false
theorem srt_unique {l m : List Blk} (h1 : Srt l) (h2 : Srt m) (hp : l.Perm m) : l = m :=
  List.Perm.eq_of_pairwise (le := fun x y => befB y x = false) (fun _ _ _ _ h1 h2 => bef_total h2 h1) h1 h2 hp
/-- Where x goes in among the first n of l. -/
def posB (x : Blk) (l : List Blk) : Nat → Nat
  | 0 => 0
  | n + 1 => if befB x (l[n]?.getD default) then posB x l n else n + 1
theorem posB_le (x : Blk) (l : List Blk) : ∀ n, posB x l n ≤ n
  | 0 => Nat.le_refl _
  | n + 1 => by
    unfold posB
    split
    · have := posB_le x l n; omega
    · exact Nat.le_refl _
theorem posB_after (x : Blk) (l : List Blk) : ∀ n j, posB x l n ≤ j → j < n → befB x (l[j]?.getD default) = true
  | 0, j, _, h => by omega
  | n + 1, j, h1, h2 => by
    unfold posB at h1
    split at h1
    · by_cases e : j = n
      · subst e; assumption
      · exact posB_after x l n j h1 (by omega)
    · omega
theorem posB_at (x : Blk) (l : List Blk) : ∀ n m, posB x l n = m + 1 → befB x (l[m]?.getD default) = false
  | 0, m, h => by simp [posB] at h
  | n + 1, m, h => by
    unfold posB at h
    split at h
    · exact posB_at x l n m h
    · obtain rfl : m = n := by omega
      exact Bool.eq_false_iff.2 ‹¬ befB _ _ = true›
def insB (x : Blk) (l : List Blk) : List Blk := l.take (posB x l l.length) ++ x :: l.drop (posB x l l.length)
theorem insB_perm (x : Blk) (l : List Blk) : (insB x l).Perm (x :: l) := by
  unfold insB
  refine List.perm_middle.trans ?_
  rw [List.take_append_drop]
theorem insB_length (x : Blk) (l : List Blk) : (insB x l).length = l.length + 1 := by
  rw [(insB_perm x l).length_eq]; rfl
theorem insB_srt {x : Blk} {l : List Blk} (h : Srt l) : Srt (insB x l) := by
  unfold insB Srt
  have hle := posB_le x l l.length
  have hb : ∀ y ∈ l.take (posB x l l.length), befB x y = false := by
    intro y hy
    obtain ⟨i, hi, e⟩ := List.getElem_of_mem hy
    rw [List.length_take] at hi
    rw [List.getElem_take] at e
    obtain ⟨m, hm⟩ : ∃ m, posB x l l.length = m + 1 := ⟨posB x l l.length - 1, by omega⟩
    have hm2 := posB_at x l _ m hm
    have hml : m < l.length := by omega
    rw [List.getElem?_eq_getElem hml, Option.getD_some] at hm2
    by_cases hi2 : i = m
    · subst hi2; rw [← e]; exact hm2
    · have hh := List.pairwise_iff_getElem.1 h i m (by omega) hml (by omega)
      rw [← e]
      exact bef_ntrans hm2 hh
  have ha : ∀ y ∈ l.drop (posB x l l.length), befB x y = true := by
    intro y hy
    obtain ⟨i, hi, e⟩ := List.getElem_of_mem hy
    rw [List.length_drop] at hi
    rw [List.getElem_drop] at e
    have h2 := posB_after x l l.length (posB x l l.length + i) (by omega) (by omega)
    rw [List.getElem?_eq_getElem (by omega), Option.getD_some, e] at h2
    exact h2
  have h0 : Srt (l.take (posB x l l.length) ++ l.drop (posB x l l.length)) := by rw [List.take_append_drop]; exact h
  obtain ⟨h1, h2, h3⟩ := List.pairwise_append.1 h0
  refine List.pairwise_append.2 ⟨h1, List.pairwise_cons.2 ⟨fun y hy => bef_asymm (ha y hy), h2⟩, fun y hy z hz => ?_⟩
  rcases List.mem_cons.1 hz with rfl | hz
  · exact hb y hy
  · exact h3 y hy z hz
/-- The blocks in order. -/
def sortB (bs : List Blk) : List Blk := bs.foldl (fun acc x => insB x acc) []
theorem sortB_snoc (bs : List Blk) (x : Blk) : sortB (bs ++ [x]) = insB x (sortB bs) := by simp [sortB]
theorem foldIns_perm : ∀ (bs acc : List Blk), (bs.foldl (fun acc x => insB x acc) acc).Perm (bs ++ acc)
  | [], acc => List.Perm.refl _
  | x :: r, acc => by
    rw [List.foldl_cons]
    refine (foldIns_perm r _).trans ?_
    refine ((insB_perm x acc).append_left r).trans ?_
    exact List.perm_middle
theorem foldIns_srt : ∀ (bs acc : List Blk), Srt acc → Srt (bs.foldl (fun acc x => insB x acc) acc)
  | [], _, h => h
  | x :: r, acc, h => by
    rw [List.foldl_cons]
    exact foldIns_srt r _ (insB_srt h)
theorem sortB_perm (bs : List Blk) : (sortB bs).Perm bs := by
  have := foldIns_perm bs []
  rwa [List.append_nil] at this
theorem sortB_srt (bs : List Blk) : Srt (sortB bs) := foldIns_srt bs [] List.Pairwise.nil
theorem sortB_length (bs : List Blk) : (sortB bs).length = bs.length := (sortB_perm bs).length_eq
theorem sortB_eq {bs l : List Blk} (h1 : Srt l) (h2 : l.Perm bs) : sortB bs = l := srt_unique (sortB_srt bs) h1 ((sortB_perm bs).trans h2.symm)
theorem sortB_of_perm {bs cs : List Blk} (h : bs.Perm cs) : sortB bs = sortB cs := sortB_eq (sortB_srt cs) ((sortB_perm cs).trans h.symm)
theorem sortB_mem {bs : List Blk} {x : Blk} : x ∈ sortB bs ↔ x ∈ bs := (sortB_perm bs).mem_iff
theorem sortB_merge (bs : List Blk) : bs.mergeSort (fun x y => !befB y x) = sortB bs := by
  refine (sortB_eq ?_ (List.mergeSort_perm _ _)).symm
  have := List.pairwise_mergeSort (le := fun x y => !befB y x) (fun x y z h1 h2 => by
    simp only [Bool.not_eq_true'] at *
    exact bef_ntrans h2 h1) (fun x y => by
    cases h : befB y x
    · simp
    · simp [bef_asymm h]) bs
  exact this.imp fun h => by simpa using h
/-- Blocks in strict order are in order. -/
theorem order_srt {v : Int} : ∀ {bs : List Blk} {p : Option Blk}, orderGo v p bs = true → (bs.Pairwise fun x y => befB x y = true) ∧ ∀ y, p = some y → ∀ x ∈ bs, befB y x = true
  | [], _, _ => ⟨List.Pairwise.nil, by simp⟩
  | x :: r, p, h => by
    simp only [orderGo, Bool.and_eq_true] at h
    obtain ⟨⟨_, h1⟩, h2⟩ := h
    obtain ⟨i1, i2⟩ := order_srt h2
    refine ⟨List.pairwise_cons.2 ⟨fun y hy => i2 x rfl y hy, i1⟩, fun y hy z hz => ?_⟩
    subst hy
    simp only at h1
    rcases List.mem_cons.1 hz with rfl | hz
    · exact h1
    · exact bef_trans h1 (i2 x rfl z hz)
theorem sys_strict {v : Int} {bs : List Blk} (h : isSysImpl v bs = true) : bs.Pairwise fun x y => befB x y = true := by
  simp only [isSysImpl, Bool.and_eq_true] at h
  exact (order_srt h.1.2).1
theorem strict_srt {bs : List Blk} (h : bs.Pairwise fun x y => befB x y = true) : Srt bs := h.imp bef_asymm
theorem strict_nodup {bs : List Blk} (h : bs.Pairwise fun x y => befB x y = true) : bs.Nodup :=
  h.imp fun {x y} hxy e => by subst e; rw [bef_irrefl] at hxy; cases hxy
end Go.Proofs.Ytiomdfhhejdoiaa

namespace Go.Proofs.Ytiomdfhhejdoiaa
/-- The pairs of a list of blocks. -/
def prs (bs : List Blk) : List (Int × Int) := bs.flatMap pairsL
/-- The same pairs. -/
def samePr (bs cs : List Blk) : Bool := (prs bs).all (fun p => decide (p ∈ prs cs)) && (prs cs).all (fun p => decide (p ∈ prs bs))
/-- No block is in both. -/
def dsj (bs cs : List Blk) : Bool := bs.all fun x => !decide (x ∈ cs)
def trdB (v : Int) (bo bi : List Blk) : Bool := isSysImpl v bo && isSysImpl v bi && (samePr bo bi && dsj bo bi)
theorem samePr_iff {bs cs : List Blk} : samePr bs cs = true ↔ ∀ p, p ∈ prs bs ↔ p ∈ prs cs := by
  simp only [samePr, Bool.and_eq_true, List.all_eq_true, decide_eq_true_eq]
  exact ⟨fun h p => ⟨h.1 p, h.2 p⟩, fun h => ⟨fun p => (h p).1, fun p => (h p).2⟩⟩
theorem dsj_iff {bs cs : List Blk} : dsj bs cs = true ↔ ∀ x ∈ bs, x ∉ cs := by simp [dsj]
theorem dsj_symm (bs cs : List Blk) : dsj bs cs = dsj cs bs := by
  rw [Bool.eq_iff_iff, dsj_iff, dsj_iff]
  exact ⟨fun h x hx hy => h x hy hx, fun h x hx hy => h x hy hx⟩
theorem samePr_symm (bs cs : List Blk) : samePr bs cs = samePr cs bs := by
  rw [Bool.eq_iff_iff, samePr_iff, samePr_iff]
  exact ⟨fun h p => (h p).symm, fun h p => (h p).symm⟩
theorem trdB_symm (v : Int) (bo bi : List Blk) : trdB v bo bi = trdB v bi bo := by
  unfold trdB
  rw [samePr_symm, dsj_symm, Bool.and_comm (isSysImpl v bo)]
theorem prs_length (bs : List Blk) : (prs bs).length = 3 * bs.length := by
  induction bs with
  | nil => rfl
  | cons x r ih =>
    simp only [prs, List.flatMap_cons, List.length_append, List.length_cons] at ih ⊢
    rw [ih]
    simp [pairsL]; omega
theorem share_nodup {v : Int} (hv : v ≤ 15) : ∀ (bs : List Blk) (seen : List (Int × Int)), (∀ x ∈ bs, goodB v x = true) → seen.Nodup → shareGo seen bs = false → (seen ++ prs bs).Nodup
  | [], seen, _, hn, _ => by simpa [prs] using hn
  | x :: r, seen, hb, hn, h => by
    unfold shareGo at h
    split at h
    · rename_i hf
      rw [freeB_iff] at hf
      obtain ⟨g1, _⟩ := good_pairs hv (hb x (by simp))
      have := share_nodup hv r (seen ++ pairsL x) (fun y hy => hb y (by simp [hy])) (List.nodup_append.2 ⟨hn, g1, fun p hp q hq e => hf q hq (e ▸ hp)⟩) h
      simpa [prs, List.append_assoc] using this
    · cases h
theorem sys_parts {v : Int} {bs : List Blk} (h : isSysImpl v bs = true) : 3 ≤ v ∧ v ≤ 15 ∧ (∀ x ∈ bs, goodB v x = true) ∧ shareGo [] bs = false := by
  simp only [isSysImpl, Bool.and_eq_true, decide_eq_true_eq, Bool.not_eq_true'] at h
  exact ⟨h.1.1.1, h.1.1.2, order_good h.1.2, h.2⟩
theorem prs_nodup {v : Int} {bs : List Blk} (h : isSysImpl v bs = true) : (prs bs).Nodup := by
  obtain ⟨_, h2, h3, h4⟩ := sys_parts h
  simpa using share_nodup h2 bs [] h3 List.nodup_nil h4
theorem sub_back {α : Type} [DecidableEq α] {l m : List α} (hn : l.Nodup) (hs : ∀ x ∈ l, x ∈ m) (hl : m.length ≤ l.length) : ∀ x ∈ m, x ∈ l := by
  intro x hx
  apply Classical.byContradiction
  intro hnot
  have h := nodup_length l (m.erase x) hn (fun y hy => by
    have hne : y ≠ x := fun e => hnot (e ▸ hy)
    exact (List.mem_erase_of_ne hne).2 (hs y hy))
  rw [List.length_erase_of_mem hx] at h
  have : 0 < m.length := List.length_pos_of_mem hx
  omega
/-- Of two systems: as many pairs, and those of the first in the second, say the same. -/
theorem samePr_of {v u : Int} {bs cs : List Blk} (h1 : isSysImpl v bs = true) (h2 : isSysImpl u cs = true) : samePr bs cs = (decide ((prs bs).length = (prs cs).length) && (prs bs).all fun p => decide (p ∈ prs cs)) := by
  have n1 := prs_nodup h1
  have n2 := prs_nodup h2
  rw [Bool.eq_iff_iff, samePr_iff]
  simp only [Bool.and_eq_true, List.all_eq_true, decide_eq_true_eq]
  constructor
  · intro h
    exact ⟨Nat.le_antisymm (nodup_length _ _ n1 fun x hx => (h x).1 hx) (nodup_length _ _ n2 fun x hx => (h x).2 hx), fun x hx => (h x).1 hx⟩
  · rintro ⟨h, hs⟩ p
    exact ⟨hs p, sub_back n1 hs (by omega) p⟩
/-- The blocks that are not in the others. -/
def lessL (bs cs : List Blk) : List Blk := bs.filter fun x => !decide (x ∈ cs)
theorem lessL_length (bs cs : List Blk) : (lessL bs cs).length ≤ bs.length := List.length_filter_le _ _
theorem lessL_mem {bs cs : List Blk} {x : Blk} : x ∈ lessL bs cs ↔ x ∈ bs ∧ x ∉ cs := by simp [lessL]
theorem lessL_strict {bs cs : List Blk} (h : bs.Pairwise fun x y => befB x y = true) : (lessL bs cs).Pairwise fun x y => befB x y = true := h.filter _
theorem sortB_strict {bs : List Blk} (h : bs.Pairwise fun x y => befB x y = true) : sortB bs = bs := sortB_eq (strict_srt h) (List.Perm.refl _)
end Go.Proofs.Ytiomdfhhejdoiaa

namespace Go.Proofs.Ytiomdfhhejdoiaa
/-- How many pairs of the list have the point. -/
def cntP (L : List (Int × Int)) (p : Int) : Nat := L.countP fun q => decide (q.1 = p) || decide (q.2 = p)
theorem cntP_append (L M : List (Int × Int)) (p : Int) : cntP (L ++ M) p = cntP L p + cntP M p := by simp [cntP]
theorem filter_append' {α : Type} (l m : List α) (p : α → Bool) : (l ++ m).filter p = l.filter p ++ m.filter p := by simp
theorem rowL_filter (P : Int → Int → Bool) (a : Nat) : ∀ n, rowL P a n = (rowL (fun _ _ => true) a n).filter fun q => P q.1 q.2
  | 0 => rfl
  | n + 1 => by
    unfold rowL
    rw [List.filter_append, ← rowL_filter P a n]
    cases hp : P (a : Int) ((a : Int) + 1 + n) <;> simp [hp]
theorem leftL_filter (P : Int → Int → Bool) (v : Nat) : ∀ a, leftL P v a = (leftL (fun _ _ => true) v a).filter fun q => P q.1 q.2
  | 0 => rfl
  | a + 1 => by
    unfold leftL
    rw [List.filter_append, ← leftL_filter P v a, ← rowL_filter]
theorem rowT_mem (a : Nat) : ∀ n (q : Int × Int), q ∈ rowL (fun _ _ => true) a n ↔ q.1 = a ∧ (a : Int) < q.2 ∧ q.2 ≤ (a : Int) + n
  | 0, q => by
    simp only [rowL, List.not_mem_nil, false_iff]
    omega
  | n + 1, q => by
    obtain ⟨x, y⟩ := q
    unfold rowL
    rw [List.mem_append, rowT_mem a n]
    simp only [if_true, List.mem_singleton, Prod.mk.injEq]
    omega
theorem leftT_mem (v : Nat) : ∀ a (q : Int × Int), a ≤ v → (q ∈ leftL (fun _ _ => true) v a ↔ 0 ≤ q.1 ∧ q.1 < a ∧ q.1 < q.2 ∧ q.2 < v)
  | 0, q, _ => by
    simp only [leftL, List.not_mem_nil, false_iff]
    omega
  | a + 1, q, h => by
    unfold leftL
    rw [List.mem_append, leftT_mem v a q (by omega), rowT_mem]
    omega
theorem rowT_nodup (a : Nat) : ∀ n, (rowL (fun _ _ => true) a n).Nodup
  | 0 => by simp [rowL]
  | n + 1 => by
    unfold rowL
    rw [List.nodup_append]
    refine ⟨rowT_nodup a n, by simp, fun x hx y hy => ?_⟩
    rw [rowT_mem] at hx
    simp only [if_true, List.mem_singleton] at hy
    subst hy
    intro e
    rw [e] at hx
    dsimp only at hx
    omega
theorem leftT_nodup (v : Nat) : ∀ a, a ≤ v → (leftL (fun _ _ => true) v a).Nodup
  | 0, _ => by simp [leftL]
  | a + 1, h => by
    unfold leftL
    rw [List.nodup_append]
    refine ⟨leftT_nodup v a (by omega), rowT_nodup a _, fun x hx y hy => ?_⟩
    rw [leftT_mem v a x (by omega)] at hx
    rw [rowT_mem] at hy
    intro e
    rw [e] at hx
    omega
theorem leftT_cnt : ∀ v : Fin 16, ∀ p : Fin 16, p.val < v.val → cntP (leftL (fun _ _ => true) v.val v.val) (p.val : Int) = v.val - 1 := by decide +kernel
/-- Two lists without doubles with the same members that pass a test pass it equally often. -/
theorem nodup_count {α : Type} [DecidableEq α] {l m : List α} (hl : l.Nodup) (hm : m.Nodup) (P Q : α → Bool) (h : ∀ x, (x ∈ l ∧ P x = true) ↔ (x ∈ m ∧ Q x = true)) : l.countP P = m.countP Q := by
  rw [List.countP_eq_length_filter, List.countP_eq_length_filter]
  apply Nat.le_antisymm
  · exact nodup_length _ _ (hl.sublist List.filter_sublist) fun x hx => List.mem_filter.2 ((h x).1 (List.mem_filter.1 hx))
  · exact nodup_length _ _ (hm.sublist List.filter_sublist) fun x hx => List.mem_filter.2 ((h x).2 (List.mem_filter.1 hx))
theorem cnt_pairs {v : Int} {x : Blk} (hx : goodB v x = true) (p : Int) : cntP (pairsL x) p = if hasB x p then 2 else 0 := by
  rw [goodB_iff] at hx
  unfold cntP pairsL hasB
  simp only [List.countP_cons, List.countP_nil]
  by_cases h1 : x.a = p <;> by_cases h2 : x.b = p <;> by_cases h3 : x.c = p <;> simp [h1, h2, h3, eq_comm] <;> omega
theorem cnt_flat {v : Int} (p : Int) : ∀ bs : List Blk, (∀ x ∈ bs, goodB v x = true) → cntP (bs.flatMap pairsL) p = 2 * (bs.filter fun x => hasB x p).length
  | [], _ => by simp [cntP]
  | x :: r, h => by
    rw [List.flatMap_cons, cntP_append, cnt_pairs (h x (by simp)), cnt_flat p r (fun y hy => h y (by simp [hy])), List.filter_cons]
    split <;> simp <;> omega
theorem upTo_cnt (p : Int) (bs : List Blk) : ∀ k, k ≤ bs.length → (upTo p bs k).length = ((bs.take k).filter fun x => hasB x p).length
  | 0, _ => rfl
  | k + 1, h => by
    rw [upTo_succ, List.length_append, upTo_cnt p bs k (by omega), List.take_add_one, List.filter_append, List.length_append, List.getElem?_eq_getElem (by omega)]
    simp only [Option.getD_some, Option.toList_some, List.filter_cons, List.filter_nil]
    split <;> rfl
/-- The leave degrees of the points. -/
def lvL (v : Nat) (bs : List Blk) : List Int := (List.range v).map fun (p : Nat) => (cntP (leftL (notIn (bs.flatMap pairsL)) v v) (p : Int) : Int)
theorem lv_at {v : Nat} {bs : List Blk} (h : isSysImpl (v : Int) bs = true) {p : Nat} (hp : p < v) :
    (cntP (leftL (notIn (bs.flatMap pairsL)) v v) (p : Int) : Int) = (v : Int) - 1 - 2 * ((idxI (p : Int) bs bs.length).length : Int) := by
  obtain ⟨h3, h15, hg, hs⟩ := sys_parts h
  have hn : (bs.flatMap pairsL).Nodup := by simpa [prs] using share_nodup h15 bs [] hg (by simp) hs
  have hin : ∀ q ∈ bs.flatMap pairsL, q ∈ leftL (fun _ _ => true) v v := fun q hq => by
    obtain ⟨x, hx, hqx⟩ := List.mem_flatMap.1 hq
    have := hg x hx
    rw [goodB_iff] at this
    rw [leftT_mem v v q (Nat.le_refl _)]
    simp only [pairsL, List.mem_cons, List.not_mem_nil, or_false] at hqx
    rcases hqx with rfl | rfl | rfl <;> (dsimp only; omega)
  have hA : cntP (leftL (fun _ _ => true) v v) (p : Int) = v - 1 := leftT_cnt ⟨v, by omega⟩ ⟨p, by omega⟩ hp
  have hB : cntP (bs.flatMap pairsL) (p : Int) = 2 * (idxI (p : Int) bs bs.length).length := by
    rw [cnt_flat (p : Int) bs hg, idxI, List.length_map, upTo_cnt _ _ _ (Nat.le_refl _), List.take_length]
  have hL := leftL_filter (notIn (bs.flatMap pairsL)) v v
  have hsplit : cntP (leftL (fun _ _ => true) v v) (p : Int) = cntP (leftL (notIn (bs.flatMap pairsL)) v v) (p : Int) + cntP (bs.flatMap pairsL) (p : Int) := by
    rw [hL]
    have e : cntP (bs.flatMap pairsL) (p : Int) = ((leftL (fun _ _ => true) v v).filter fun q => !notIn (bs.flatMap pairsL) q.1 q.2).countP fun q => decide (q.1 = (p : Int)) || decide (q.2 = (p : Int)) := by
      unfold cntP
      refine nodup_count hn ((leftT_nodup v v (Nat.le_refl _)).sublist List.filter_sublist) _ _ fun q => ?_
      rw [List.mem_filter]
      constructor
      · rintro ⟨h1, h2⟩
        exact ⟨⟨hin q h1, by simpa [notIn] using h1⟩, h2⟩
      · rintro ⟨⟨_, h1⟩, h2⟩
        exact ⟨by simpa [notIn] using h1, h2⟩
    rw [e]
    unfold cntP
    rw [List.countP_filter, List.countP_filter]
    induction leftL (fun _ _ => true) v v with
    | nil => rfl
    | cons q r ih =>
      simp only [List.countP_cons, ih]
      cases notIn (bs.flatMap pairsL) q.1 q.2 <;> cases (decide (q.1 = (p : Int)) || decide (q.2 = (p : Int))) <;> simp <;> omega
  omega
end Go.Proofs.Ytiomdfhhejdoiaa

namespace Go.Proofs.Ytiomdfhhejdoiaa
open Go.RowKit Go.Maps
theorem mkRow (n : Nat) (hn : n ≤ 1100000) (W : World) : (Instr.makeSlice 26 (.int .i64 (n : Int)) (.int .i64 (n : Int))).run Try.prog W = .ok (.slice (some ⟨W.heap.size, 0, none⟩) n n) (W.alloc (.cells (madeCells #[.int .i64 0] n) 2)) := by
  obtain ⟨i0, hi, hz0, hz1, hz2⟩ := info_parts infoInt64
  have hr := run_make (P := Try.prog) W 26 2 i0 (.int .i64 0) Try.underlying26 hi hz0 .i64 .i64 n n (by omega) (by omega) (by rw [hz2]; omega) (by omega)
  simp only [Int.toNat_natCast, hz1, Nat.mul_one] at hr
  exact hr
end Go.Proofs.Ytiomdfhhejdoiaa

namespace Go.Proofs.Ytiomdfhhejdoiaa
open Go.RowKit Go.Maps
theorem AccS.new0 (W : World) (gs caps : Nat → Nat) (F : Nat → List Int) {base : Nat} (hb : base ≤ W.heap.size) : AccS (W.alloc (.cells #[] 26)) base (.slice (some ⟨W.heap.size, 0, none⟩) 0 0) 0 gs caps F :=
  ⟨⟨rfl, .inr ⟨W.heap.size, 0, #[], rfl, hb, World.alloc_heap_new W _, Nat.le_refl _, Nat.zero_le _, rfl, rfl⟩⟩, fun k hk => by omega, fun k hk => by omega, fun j k _ hk => by omega, fun k hk => by omega⟩
theorem l01In_val (n : Int) (β : Bool) (hβ : (decide ((2 : Int) ≤ n) && decide (n ≤ 5)) = β) (W : World) : Calls Try.prog 79 #[.int .i64 n, .int .i64 2, .int .i64 5] W (RS (.bool β) W) := by
  have h := l01In_any n 2 5 W
  rw [hβ] at h
  exact h
end Go.Proofs.Ytiomdfhhejdoiaa

namespace Go.Proofs.Ytiomdfhhejdoiaa
open Go.RowKit Go.Maps
theorem both_pair {v : Int} {x : Blk} (hg : goodB v x = true) {a b : Int} (hab : a < b) : bothB a b x = true ↔ (a, b) ∈ pairsL x := by
  obtain ⟨h1, h2, h3, h4⟩ := goodB_iff.1 hg
  unfold bothB hasB pairsL
  simp only [Bool.and_eq_true, Bool.or_eq_true, decide_eq_true_iff, List.mem_cons, List.mem_nil_iff, or_false, Prod.mk.injEq]
  omega
theorem third_left {v : Int} {bs : List Blk} (hg : ∀ x ∈ bs, goodB v x = true) (hv : v ≤ 15) {a b : Int} (hab : a < b) :
    (notIn (bs.flatMap pairsL) a b = true → third1 bs a b = -1) ∧ (notIn (bs.flatMap pairsL) a b = false → 0 ≤ third1 bs a b ∧ third1 bs a b ≤ 15) := by
  unfold notIn third1
  cases hf : bs.find? (bothB a b) with
  | none =>
    have hn := List.find?_eq_none.1 hf
    have : ¬ (a, b) ∈ bs.flatMap pairsL := fun h => by
      obtain ⟨x, hx, hp⟩ := List.mem_flatMap.1 h
      exact hn x hx ((both_pair (hg x hx) hab).2 hp)
    simp [this]
  | some x =>
    have hx := List.mem_of_find?_eq_some hf
    have hb := List.find?_some hf
    have hin : (a, b) ∈ bs.flatMap pairsL := List.mem_flatMap.2 ⟨x, hx, (both_pair (hg x hx) hab).1 hb⟩
    have hne : a ≠ b := by omega
    have h3 := third_bounds (hg x hx) hv hb hne
    refine ⟨fun h => ?_, fun _ => h3⟩
    simp [hin] at h
def pairsF (v : Int) (bs : List Blk) : List (Int × Int) × Int := if isSysImpl v bs then (leftL (notIn (bs.flatMap pairsL)) v.toNat v.toNat, 0) else ([], 1)
/-- A result that is a list of rows: empty anywhere, or memory of its own from lo on. -/
def ResSS (w : World) (lo : Nat) (u : Value) (n : Nat) (F : Nat → List Int) : Prop := (n = 0 ∧ ∃ a c, u = .slice a 0 c) ∨ ∃ G cap gs caps, u = .slice (some ⟨G, 0, none⟩) n cap ∧ lo ≤ G ∧ SSR w lo G gs caps n F
theorem AccS.res {w : World} {base : Nat} {u : Value} {n : Nat} {gs caps : Nat → Nat} {F : Nat → List Int} (h : AccS w base u n gs caps F) : ResSS w base u n F := by
  by_cases h0 : n = 0
  · subst h0
    rcases h.own.2 with ⟨rfl, _⟩ | ⟨g, cap, cur, rfl, _⟩
    · exact .inl ⟨rfl, _, _, rfl⟩
    · exact .inl ⟨rfl, _, _, rfl⟩
  · obtain ⟨G, cap, hu, hG, hS⟩ := h.ssr (by omega)
    exact .inr ⟨G, cap, gs, caps, hu, hG, hS⟩
def RPL (r : List (Int × Int) × Int) (w : World) (e : Ending) (w' : World) : Prop := ∃ u, e = .returned (.tuple #[u, .int .i64 r.2]) ∧ Below w.heap.size w w' ∧ ResSS w' w.heap.size u r.1.length (fnL r.1)
set_option maxRecDepth 100000 in
theorem PairsLeft_any (v : Int) (s : Value) (bs : List Blk) (w : World) (h : SB w s bs) : Calls Try.prog 48 #[.agg #[.int .i64 v, s]] w (RPL (pairsF v bs) w) := by
  cases hi : isSysImpl v bs with
  | true =>
    obtain ⟨hv3, hv15, _⟩ := sys_size hi
    have ev : v = ((v.toNat : Nat) : Int) := by omega
    have hval : pairsF v bs = (leftL (notIn (bs.flatMap pairsL)) v.toNat v.toNat, 0) := by simp [pairsF, hi]
    rw [hval]
    rw [ev] at hi
    have := PairsLeft_main v.toNat s bs w h hi
    rw [← ev] at this
    refine this.mono ?_
    rintro e w' ⟨u, gs, caps, rfl, hB, hA⟩
    exact ⟨u, rfl, hB, hA.res⟩
  | false =>
    have hval : pairsF v bs = ([], 1) := by simp [pairsF, hi]
    rw [hval]
    have hs := h.slice
    have HI := Lib.hid fun W (hb : Below w.heap.size w W) => IsSystem_any v s bs W (h.below hb (Nat.le_refl _))
    rw [hi] at HI
    clear h hi hval
    obtain ⟨a0, c0, rfl⟩ := hs
    go_enter Try.func48, Try.ntmps48
    go_wp2_with (go_at_call 63; refine (HI.out _ ((Below.refl _ _).alloc (Nat.le_refl _) _)).mono ?_; rintro e w1 ⟨rfl, hb1⟩)
    go_ret2
    exact ⟨_, rfl, below_new hb1, .inl ⟨rfl, _, _, rfl⟩⟩
end Go.Proofs.Ytiomdfhhejdoiaa

namespace Go.Proofs.Ytiomdfhhejdoiaa
open Go.RowKit Go.Maps
theorem copy_next (zs : List Int) {k : Nat} (hk : k < zs.length) : (zs.take k ++ List.replicate (zs.length - k) 0).set k (zs[k]?.getD 0) = zs.take (k + 1) ++ List.replicate (zs.length - (k + 1)) 0 := by
  rw [show zs.length - k = (zs.length - (k + 1)) + 1 by omega, List.replicate_succ, List.set_append_right _ _ (by simp; omega), List.length_take, show k - min k zs.length = 0 by omega, List.set_cons_zero, List.take_add_one, List.append_assoc]
  simp [hk]
end Go.Proofs.Ytiomdfhhejdoiaa

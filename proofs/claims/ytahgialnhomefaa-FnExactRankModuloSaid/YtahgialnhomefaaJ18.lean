
/- The model's l09Rows. Two headers of a list of rows change places. The model's rank, plain: how far it has come. The model's l09Rank. RankModulo of the model. The law FnExactRankModulo returns true. How the laws' arguments are read. The dump's head word by word, cheaply: what every row asks of it. -/
import Derived.Test.YtahgialnhomefaaJ17
import Derived.StillTailTactics
import Derived.BigQuiet
import Derived.Deep.RegionWith
import Derived.Test.YtahgialnhomefaaRows
import Derived.ProofKit
import Derived.OpenShut
import Derived.Deep.Slices
import Derived.Lib.SmallJoins
import Derived.ChangeOld
namespace Go.Proofs.Ytahgialnhomefaa
open Go.RowKit Go.Maps
set_option maxRecDepth 100000 in
set_option maxHeartbeats 4000000 in
theorem l09Rows_any (n : Nat) (s : Value) (bs : List Blk) (w : World) (h : SB w s bs) (hi : isSysImpl (n : Int) bs = true) :
    Calls Try.prog 64 #[.agg #[.int .i64 (n : Int), s]] w (fun e w' => ∃ u us, e = .returned u ∧ TabL w' w.heap.size u us (rowsB n bs) ∧ Below w.heap.size w w') := by
  have hs := h.slice
  obtain ⟨hv3, hv15, hb35⟩ := sys_size hi
  have HG := Lib.hid (sys_good hi)
  have HSX := Lib.hid h.sx
  have hmk := mkRow n (by omega)
  clear h hi
  obtain ⟨a0, c0, rfl⟩ := hs
  go_enter Try.func64, Try.ntmps64
  go_wp2
  have hbA : Below w.heap.size w (w.alloc (.cells #[.int .i64 (n : Int), .slice a0 bs.length c0] 30)) := (Below.refl _ _).alloc (Nat.le_refl _) _
  obtain ⟨w1, hw1⟩ : ∃ w1, w1 = w.alloc (.cells #[.int .i64 (n : Int), .slice a0 bs.length c0] 30) := ⟨_, rfl⟩
  have x0 : w1.cell? ⟨w.heap.size, 0, none⟩ = some (.int .i64 (n : Int)) := by rw [hw1]; simp [go_sem]
  have x1 : w1.cell? ⟨w.heap.size, 1, none⟩ = some (.slice a0 bs.length c0) := by rw [hw1]; simp [go_sem]
  have hz1 : w1.heap.size = w.heap.size + 1 := by rw [hw1]; simp
  rw [← hw1] at hbA ⊢
  have HT0 := Lib.hid (TabL.new0 (lo := w1.heap.size) w1 (Nat.le_refl _))
  have HBA := Lib.hid hbA
  clear hw1 hbA
  rw [← hz1]
  have hz1' : w.heap.size < w1.heap.size := by omega
  clear hz1
  go_loopw [3, 4] (fun o i wr => ∃ (a : Nat) (us : List Value), a ≤ bs.length ∧ i = .int .i64 (a : Int) ∧ Below w1.heap.size w1 wr ∧ TabL wr w1.heap.size o us (rowsB n (bs.take a)) ∧ ∃ p m c, o = .slice p m c) (fun _ i _ => bs.length - (intOf i).toNat)
  case atStart => exact ⟨0, [], Nat.zero_le _, rfl, (Below.refl _ _).alloc (Nat.le_refl _) _, HT0.out, _, _, _, rfl⟩
  case round =>
    obtain ⟨m, us, hm, rfl, hB, hT, p3, m3, c3, rfl⟩ := hrel
    have HB := Lib.hid hB
    have HT := Lib.hid hT
    have hz := hB.size
    have r0 := (hB.cell (p := ⟨w.heap.size, 0, none⟩) (by show w.heap.size < _; omega)).trans x0
    have r1 := (hB.cell (p := ⟨w.heap.size, 1, none⟩) (by show w.heap.size < _; omega)).trans x1
    clear hB hT
    by_cases hml : m < bs.length
    · have g0 : decide ((m : Int) < (bs.length : Int)) = true := by simp; omega
      rcases HSX.out with ⟨_, _, _, hnil⟩ | ⟨b, off, cap, hv, hblt, hbl⟩
      · rw [hnil] at hml; simp at hml
      simp at hv
      obtain ⟨rfl, rfl⟩ := hv
      have hbw : Below w.heap.size w wr := HBA.out.trans (HB.out.mono (by omega))
      have HBW := Lib.hid hbw
      obtain ⟨x, hx, ex, y0, y1, y2⟩ := blks_at (hbl.below hbw hblt) hml
      have hgx := goodB_iff.1 (HG.out x hx)
      have HTK := Lib.hid (show rowsB n (bs.take (m + 1)) = rowsB n (bs.take m) ++ [rowB n x] by rw [List.take_add_one, ex]; simp [rowsB])
      obtain ⟨xa, xb, xc⟩ := x
      dsimp only at hgx y0 y1 y2
      obtain ⟨p, rfl⟩ := Int.eq_ofNat_of_zero_le hgx.1
      obtain ⟨q, rfl⟩ := Int.eq_ofNat_of_zero_le (show 0 ≤ xb by omega)
      obtain ⟨r, rfl⟩ := Int.eq_ofNat_of_zero_le (show 0 ≤ xc by omega)
      have hp : p < n := by omega
      have hq : q < n := by omega
      have hr : r < n := by omega
      have HRB := Lib.hid (show rowB n ⟨(p : Int), (q : Int), (r : Int)⟩ = (((List.replicate n (0 : Int)).set p 1).set q 1).set r 1 by simp [rowB, mrkL])
      rw [HRB.out] at HTK
      have i0 : (0 : Int) ≤ (m : Int) := by omega
      have i1 : (m : Int) < (bs.length : Int) := by omega
      have HO0 := Lib.hid (OwnJ.made0 wr (base := wr.heap.size) n (by omega) (Nat.le_refl _))
      have HB0 := Lib.hid ((Below.refl wr.heap.size wr).alloc (Nat.le_refl _) (.cells (madeCells #[.int .i64 0] n) 2))
      have hbz : b < wr.heap.size := by have := HBW.out.size; omega
      clear hgx hx ex hbl hbw HRB
      go_wp2_with fail
      obtain ⟨V, hV⟩ : ∃ V, V = wr := ⟨_, rfl⟩
      rw [← hV] at HT HB HBW HO0 HB0 hz hbz r0 r1 y0 y1 y2 ⊢
      clear hV
      obtain ⟨W0, hW0⟩ : ∃ W0, W0 = V.alloc (.cells (madeCells #[.int .i64 0] n) 2) := ⟨_, rfl⟩
      rw [← hW0] at HO0 HB0 ⊢
      clear hW0
      obtain ⟨L0, hL0⟩ : ∃ L0, L0 = List.replicate n (0 : Int) := ⟨_, rfl⟩
      rw [← hL0] at HO0 HTK
      have hl0 : L0.length = n := by rw [hL0]; simp
      clear hL0
      refine wp_loop_rounds 4 ?_
      rw [rounds_succ]
      have b0 := (HB0.out.cell (p := ⟨w.heap.size, 0, none⟩) (by show w.heap.size < _; omega)).trans r0
      have b1 := (HB0.out.cell (p := ⟨w.heap.size, 1, none⟩) (by show w.heap.size < _; omega)).trans r1
      have b2 := (HB0.out.cell (p := ⟨b, off + m * 3, none⟩) hbz).trans y0
      have s1 := HO0.out.at_ (i := p) (by rw [hl0]; exact hp)
      have s2 := s1.1
      have s3 := s1.2.2.2.2
      have s4 := HO0.out.setT (i := p) (x := 1) (by rw [hl0]; exact hp)
      have HO1 := Lib.hid s4.1
      have HB1 := Lib.hid (HB0.out.grown s4.2 HB0.out.size (fun r e => by cases e; exact Nat.le_refl _))
      have hl1 : (L0.set p 1).length = n := by rw [List.length_set]; exact hl0
      clear s1 s4
      go_wp2_with fail
      obtain ⟨W1, hW1⟩ : ∃ W, W = W0.setCell ⟨V.heap.size, p, none⟩ (.int .i64 1) := ⟨_, rfl⟩
      rw [← hW1] at HO1 HB1 ⊢
      obtain ⟨L1, hL1⟩ : ∃ L, L = L0.set p 1 := ⟨_, rfl⟩
      rw [← hL1] at HO1 HTK hl1
      clear hW1 hL1 HO0 HB0 hl0 b0 b1 b2 s2 s3
      rw [rounds_succ]
      have b0 := (HB1.out.cell (p := ⟨w.heap.size, 0, none⟩) (by show w.heap.size < _; omega)).trans r0
      have b1 := (HB1.out.cell (p := ⟨w.heap.size, 1, none⟩) (by show w.heap.size < _; omega)).trans r1
      have b2 := (HB1.out.cell (p := ⟨b, off + m * 3 + 1, none⟩) hbz).trans y1
      have s1 := HO1.out.at_ (i := q) (by rw [hl1]; exact hq)
      have s2 := s1.1
      have s3 := s1.2.2.2.2
      have s4 := HO1.out.setT (i := q) (x := 1) (by rw [hl1]; exact hq)
      have HO2 := Lib.hid s4.1
      have HB2 := Lib.hid (HB1.out.grown s4.2 HB1.out.size (fun r e => by cases e; exact Nat.le_refl _))
      have hl2 : (L1.set q 1).length = n := by rw [List.length_set]; exact hl1
      clear s1 s4
      go_wp2_with fail
      obtain ⟨W2, hW2⟩ : ∃ W, W = W1.setCell ⟨V.heap.size, q, none⟩ (.int .i64 1) := ⟨_, rfl⟩
      rw [← hW2] at HO2 HB2 ⊢
      obtain ⟨L2, hL2⟩ : ∃ L, L = L1.set q 1 := ⟨_, rfl⟩
      rw [← hL2] at HO2 HTK hl2
      clear hW2 hL2 HO1 HB1 hl1 b0 b1 b2 s2 s3
      rw [rounds_succ]
      have b0 := (HB2.out.cell (p := ⟨w.heap.size, 0, none⟩) (by show w.heap.size < _; omega)).trans r0
      have b1 := (HB2.out.cell (p := ⟨w.heap.size, 1, none⟩) (by show w.heap.size < _; omega)).trans r1
      have b2 := (HB2.out.cell (p := ⟨b, off + m * 3 + 2, none⟩) hbz).trans y2
      have s1 := HO2.out.at_ (i := r) (by rw [hl2]; exact hr)
      have s2 := s1.1
      have s3 := s1.2.2.2.2
      have s4 := HO2.out.setT (i := r) (x := 1) (by rw [hl2]; exact hr)
      have HO3 := Lib.hid s4.1
      have HB3 := Lib.hid (HB2.out.grown s4.2 HB2.out.size (fun r e => by cases e; exact Nat.le_refl _))
      have hl3 : (L2.set r 1).length = n := by rw [List.length_set]; exact hl2
      clear s1 s4
      go_wp2_with fail
      obtain ⟨W3, hW3⟩ : ∃ W, W = W2.setCell ⟨V.heap.size, r, none⟩ (.int .i64 1) := ⟨_, rfl⟩
      rw [← hW3] at HO3 HB3 ⊢
      obtain ⟨L3, hL3⟩ : ∃ L, L = L2.set r 1 := ⟨_, rfl⟩
      rw [← hL3] at HO3 HTK hl3
      clear hW3 hL3 HO2 HB2 hl2 b0 b1 b2 s2 s3
      rw [rounds_succ]
      have hll : us.length ≤ 1100000 := by rw [HT.out.len, rowsB_len, List.length_take]; omega
      have HTO := Lib.hid (HT.out.own.below HB3.out (Nat.le_refl _))
      have hm3 : m3 = us.length := by
        rcases HT.out.own.2 with ⟨hv, h0⟩ | ⟨_, _, _, hv, _⟩
        · cases hv; exact h0.symm
        · cases hv; rfl
      subst hm3
      have hzq := HB3.out.size
      go_wp2_with (at_builtin; refine wpList_append_hdr rfl _ _ rfl w1.heap.size _ us rfl (HTO.out.below ((Below.refl _ _).alloc (Nat.le_refl _) _) (Nat.le_refl _)) _ _ rfl (some ⟨V.heap.size, 0, none⟩) n n (by simp [go_sem]) hll (by simp; omega) ?_; intro G' cap' w4 hV4 hg4 hG4)
      have hb6 := (Below.refl W3.heap.size W3).alloc (Nat.le_refl _) (.cells #[.slice (some ⟨V.heap.size, 0, none⟩) n n] 38)
      have hbl := (HT.out.own.blkP)
      have hsn := HT.out.snocB (HB3.out.trans (hb6.mono hzq)) (HO3.out.below hb6 (Nat.le_refl _)) hz hg4 hV4 (fun G e => by have e : G' = G := (by simpa [Value.ownBlock] using e); subst e; rcases hG4 with h | h; exact .inl h; exact .inr (by omega))
      rw [← HTK.out] at hsn
      have HSN := Lib.hid hsn
      have hgo := gb_trans (World.grownBy_alloc _ _ none) hg4
      have HB4 := Lib.hid ((HB.out.trans (HB3.out.mono hz)).grown hgo (by omega) (fun r e => (hbl r e).1))
      clear hsn hg4 hV4 hgo hbl
      go_wp2
      go_roundw
      case rel => first
        | exact ⟨m + 1, _, by omega, by go_num, HB4.out, HSN.out, _, _, _, rfl⟩
        | ((repeat apply Exists.intro); exact ⟨⟨m + 1, _, by omega, by go_num, HB4.out, HSN.out, _, _, _, rfl⟩, rfl⟩)
      case measure => simp [intOf]; omega
    · have g0 : decide ((m : Int) < (bs.length : Int)) = false := by simp; omega
      have e : bs.take m = bs := List.take_of_length_le (by omega)
      rw [e] at HT
      go_wp2
      go_ret
      refine ⟨_, us, rfl, ?_, HBA.out.trans (HB.out.mono (by omega))⟩
      exact ⟨ownsRow_base HT.out.own (by omega), HT.out.len, fun k x hk => (HT.out.row k x hk).baseP (by omega), HT.out.ne, HT.out.inc⟩
end Go.Proofs.Ytahgialnhomefaa

namespace Go.Proofs.Ytahgialnhomefaa
open Go.RowKit Go.Maps
def swpG {α : Type} (d : α) (R : List α) (k i : Nat) : List α := (R.set i (R[k]?.getD d)).set k (R[i]?.getD d)
theorem swpG_at {α : Type} {d : α} {R : List α} {k i : Nat} (hk : k < R.length) (hi : i < R.length) (m : Nat) : (swpG d R k i)[m]? = R[if m = k then i else if m = i then k else m]? := by
  unfold swpG
  by_cases h0 : m = k
  · subst h0
    rw [if_pos rfl, List.getElem?_set_self (by rw [List.length_set]; exact hk)]
    simp [hi]
  · rw [if_neg h0, List.getElem?_set_ne (fun h => h0 h.symm)]
    by_cases h1 : m = i
    · subst h1
      rw [if_pos rfl, List.getElem?_set_self hi]
      simp [hk]
    · rw [if_neg h1, List.getElem?_set_ne (fun h => h1 h.symm)]
theorem TabL.swp {W : World} {lo G m c : Nat} {us : List Value} {Rs : List (List Int)} {k i : Nat} {uk ui : Value} (h : TabL W lo (.slice (some ⟨G, 0, none⟩) m c) us Rs) (hk : us[k]? = some uk) (hi : us[i]? = some ui) :
    TabL ((W.setCell ⟨G, i, none⟩ uk).setCell ⟨G, k, none⟩ ui) lo (.slice (some ⟨G, 0, none⟩) m c) (swpG (.slice none 0 0) us k i) (swpG [] Rs k i) ∧ W.grownBy ((W.setCell ⟨G, i, none⟩ uk).setCell ⟨G, k, none⟩ ui) (some G) := by
  have hkl := (List.getElem?_eq_some_iff.1 hk).1
  have hil := (List.getElem?_eq_some_iff.1 hi).1
  obtain ⟨s1, s2⟩ := h.own.setT (i := i) (x := uk)
  obtain ⟨t1, t2⟩ := s1.setT (i := k) (x := ui)
  have hg := gb_trans2 s2 t2
  have hat : ∀ m, (swpG (.slice none 0 0) us k i)[m]? = us[if m = k then i else if m = i then k else m]? := swpG_at hkl hil
  have hinj : ∀ a b : Nat, a ≠ b → (if a = k then i else if a = i then k else a) ≠ (if b = k then i else if b = i then k else b) := by
    intro a b hab
    split <;> split <;> (repeat' split) <;> omega
  have hus : swpG (.slice none 0 0) us k i = (us.set i uk).set k ui := by unfold swpG; rw [hk, hi]; rfl
  refine ⟨⟨by rw [hus]; exact t1, by simp [swpG, h.len], fun q x hx => ?_, fun x hx => ?_, fun a b x y hab hx hy => ?_⟩, hg⟩
  · rw [hat] at hx
    rw [swpG_at (by rw [← h.len]; exact hkl) (by rw [← h.len]; exact hil)]
    exact (h.row _ x hx).apartP hg (fun r hr => by cases hr; exact h.ne x (List.mem_of_getElem? hx) G rfl)
  · obtain ⟨q, hq⟩ := List.mem_iff_getElem?.1 hx
    rw [hat] at hq
    exact h.ne x (List.mem_of_getElem? hq)
  · rw [hat] at hx hy
    exact h.inc _ _ x y (hinj a b hab) hx hy
end Go.Proofs.Ytahgialnhomefaa

namespace Go.Proofs.Ytahgialnhomefaa
variable {p : Int} {n c k : Nat}
theorem bestM_eq {R : List (List Int)} {q : Nat} (hk : k ≤ q) (hq : q < R.length) (hv : vec (R[q]?.getD []) c ≠ 0) (hz : ∀ i, k ≤ i → i < q → vec (R[i]?.getD []) c = 0) : bestM c k R = some q := by
  unfold bestM
  rw [List.range_eq_range', List.drop_range']
  rw [List.find?_eq_some_iff_getElem]
  refine ⟨by simpa using hv, q - k, by rw [List.length_range']; omega, ?_, fun j hj => ?_⟩
  · simp; omega
  · have := hz (0 + 1 * k + 1 * j) (by omega) (by omega)
    simp [List.getElem_range'] at this ⊢
    exact this
theorem bestM_no {R : List (List Int)} (hz : ∀ i, k ≤ i → i < R.length → vec (R[i]?.getD []) c = 0) : bestM c k R = none := by
  cases h : bestM c k R with
  | none => rfl
  | some i =>
    obtain ⟨h1, h2, h3⟩ := bestM_some h
    exact absurd (hz i h1 h2) h3
/-- The table while the rows behind k are being gone through. -/
def tailK (p : Int) (c k : Nat) (own : List Int) (R : List (List Int)) (i : Nat) : List (List Int) := R.mapIdx fun a r => if k < a ∧ a < i then clrM p c own r else r
theorem tailK_len (own : List Int) (R : List (List Int)) (i : Nat) : (tailK p c k own R i).length = R.length := by simp [tailK]
theorem tailK_at {own : List Int} {R : List (List Int)} {i a : Nat} (ha : a < R.length) : (tailK p c k own R i)[a]?.getD [] = if k < a ∧ a < i then clrM p c own (R[a]?.getD []) else R[a]?.getD [] := by
  simp [tailK, ha]
theorem tailK_start {own : List Int} {R : List (List Int)} : tailK p c k own R (k + 1) = R := by
  apply List.ext_getElem
  · exact tailK_len _ _ _
  · intro a h1 h2
    have : ¬ (k < a ∧ a < k + 1) := by omega
    simp only [tailK, List.getElem_mapIdx]
    rw [if_neg this]
theorem tailK_end {own : List Int} {R : List (List Int)} (_hk : k < R.length) : tailK p c k own R R.length = tailM p c k own R := by
  apply List.ext_getElem
  · rw [tailK_len]; simp [tailM]; omega
  · intro a h1 h2
    rw [tailK_len] at h1
    simp only [tailK, tailM, List.getElem_mapIdx]
    rw [List.getElem_append]
    by_cases h : k < a
    · rw [if_pos ⟨h, h1⟩, dif_neg (by simp; omega)]
      simp only [List.getElem_map, List.getElem_drop, List.length_take]
      congr 2
      omega
    · rw [if_neg (fun x => h x.1), dif_pos (by simp; omega)]
      simp
theorem tailK_set {own : List Int} {R : List (List Int)} {i : Nat} (hk : k < i) (hi : i < R.length) {z : List Int} (hz : z = clrM p c own (R[i]?.getD [])) : (tailK p c k own R i).set i z = tailK p c k own R (i + 1) := by
  subst hz
  apply List.ext_getElem
  · rw [List.length_set, tailK_len, tailK_len]
  · intro a h1 h2
    rw [tailK_len] at h2
    rw [List.getElem_set]
    by_cases e : i = a
    · subst e
      rw [if_pos rfl]
      simp only [tailK, List.getElem_mapIdx]
      rw [if_pos ⟨hk, by omega⟩]
      simp [hi]
    · rw [if_neg e]
      simp only [tailK, List.getElem_mapIdx]
      have : (k < a ∧ a < i) ↔ (k < a ∧ a < i + 1) := by omega
      simp only [this]
theorem set_self {α : Type} {l : List α} {i : Nat} {z : α} (h : l[i]? = some z) : l.set i z = l := by
  apply List.ext_getElem?
  intro a
  by_cases e : i = a
  · subst e
    rw [List.getElem?_set_self (List.getElem?_eq_some_iff.1 h).1, h]
  · rw [List.getElem?_set_ne e]
/-- A row while its numbers are being gone through. -/
def rowJ (n : Nat) (p t : Int) (own r : List Int) (j : Nat) : List Int := (List.range n).map fun b => if b < j then (vec r b + t * vec own b) % p else vec r b
theorem rowJ_len (t : Int) (own r : List Int) (j : Nat) : (rowJ n p t own r j).length = n := by simp [rowJ]
theorem rowJ_at {t : Int} {own r : List Int} {j : Nat} (hj : j < n) : (rowJ n p t own r j)[j]?.getD 0 = vec r j := by simp [rowJ, hj]
theorem rowJ_set {t : Int} {own r : List Int} {j : Nat} (_hj : j < n) : (rowJ n p t own r j).set j ((vec r j + t * vec own j) % p) = rowJ n p t own r (j + 1) := by
  apply List.ext_getElem
  · rw [List.length_set, rowJ_len, rowJ_len]
  · intro a h1 h2
    rw [rowJ_len] at h2
    rw [List.getElem_set]
    by_cases e : j = a
    · subst e
      rw [if_pos rfl]; simp [rowJ]
    · rw [if_neg e]
      have : a < j ↔ a < j + 1 := by omega
      simp [rowJ, this]
theorem rowJ_start (hp : 0 < p) {t : Int} {own r : List Int} (hr : Wf p n r) (ho : ∀ b, b < c → vec own b = 0) : rowJ n p t own r c = r := by
  apply List.ext_getElem
  · rw [rowJ_len, hr.1]
  · intro a h1 h2
    simp only [rowJ, List.getElem_map, List.getElem_range]
    have hv : vec r a = r[a] := vec_at h2
    split
    · rw [ho a (by assumption), Int.mul_zero, Int.add_zero, hr.mod hp, hv]
    · exact hv
theorem rowJ_end {t : Int} {own r : List Int} (hr : Wf p n r) (ho : own.length = n) : rowJ n p t own r n = addL p t own r := by
  apply List.ext_getElem
  · rw [rowJ_len, addL_len, hr.1, ho]; omega
  · intro a h1 h2
    rw [rowJ_len] at h1
    rw [← vec_at h2, addL_at hr.1 ho h1]
    simp [rowJ, h1]
theorem rankM_nil (p : Int) (n : Nat) : rankM p n [] = 0 := by
  unfold rankM
  suffices h : runM p [] n = ([], 0) by rw [h]
  induction n with
  | zero => rfl
  | succ n ih => rw [runM_succ, ih]; rfl
theorem swpM_len (R : List (List Int)) (k i : Nat) : (swpM R k i).length = R.length := by simp [swpM]
end Go.Proofs.Ytahgialnhomefaa

namespace Go.Proofs.Ytahgialnhomefaa
open Go.RowKit Go.Maps
theorem TabL.cel {W : World} {lo G m c n : Nat} {us : List Value} {Rs : List (List Int)} (h : TabL W lo (.slice (some ⟨G, 0, none⟩) m c) us Rs) {i : Nat} (hi : i < Rs.length) (hn : (Rs[i]?.getD []).length = n) (h0 : 0 < n) (h1 : n ≤ 1000) :
    ∃ g cap, W.cell? ⟨G, i, none⟩ = some (.slice (some ⟨g, 0, none⟩) n cap) ∧ W.frozen? ⟨G, i, none⟩ = false ∧ us[i]? = some (.slice (some ⟨g, 0, none⟩) n cap) ∧ (∀ j, j < n → W.cell? ⟨g, j, none⟩ = some (.int .i64 (vec (Rs[i]?.getD []) j)) ∧ W.frozen? ⟨g, j, none⟩ = false) ∧ lo ≤ g := by
  obtain ⟨G', c', g, cap, e, _, a1, a5, a2, a3, a4⟩ := h.at_ hi (by omega) (by omega)
  simp at e
  obtain ⟨rfl, _⟩ := e
  rw [hn] at a1 a2
  refine ⟨g, cap, a1, a5, a2, fun j hj => ⟨?_, a3.free j⟩, a4⟩
  have := a3.at_ j (by omega)
  rw [Nat.zero_add] at this
  exact this
theorem TabL.hd {W : World} {lo G m c n : Nat} {us : List Value} {Rs : List (List Int)} (h : TabL W lo (.slice (some ⟨G, 0, none⟩) m c) us Rs) {i g cap : Nat} (hi : i < Rs.length) (hn : (Rs[i]?.getD []).length = n) (h0 : 0 < n) (h1 : n ≤ 1000) (hx : us[i]? = some (.slice (some ⟨g, 0, none⟩) n cap)) :
    W.cell? ⟨G, i, none⟩ = some (.slice (some ⟨g, 0, none⟩) n cap) ∧ (∀ j, j < n → W.cell? ⟨g, j, none⟩ = some (.int .i64 (vec (Rs[i]?.getD []) j)) ∧ W.frozen? ⟨g, j, none⟩ = false) ∧ lo ≤ g := by
  obtain ⟨g', cap', a1, _, a2, a3, a4⟩ := h.cel hi hn h0 h1
  rw [hx] at a2
  simp at a2
  obtain ⟨rfl, rfl⟩ := a2
  exact ⟨a1, a3, a4⟩
theorem two_three {p x y : Int} (hp : P23 p) (x0 : 0 ≤ x) (x1 : x < p) (y0 : 0 ≤ y) (y1 : y < p) : 0 ≤ x * y ∧ x * y ≤ 4 := by
  refine ⟨Int.mul_nonneg x0 y0, ?_⟩
  have : x * y ≤ 2 * 2 := Int.mul_le_mul (by rcases hp with rfl | rfl <;> omega) (by rcases hp with rfl | rfl <;> omega) y0 (by omega)
  omega
set_option maxRecDepth 100000 in
set_option maxHeartbeats 8000000 in
theorem l09Rank_any {p : Int} (hp : P23 p) (n : Nat) (hn0 : 0 < n) (hn : n ≤ 100) (R : List (List Int)) (hR : ∀ r ∈ R, Wf p n r) (hRl : R.length ≤ 1000) (lo : Nat) (u : Value) (us0 : List Value) (w : World) (h : TabL w lo u us0 R) :
    Calls Try.prog 63 #[u, .int .i64 p] w (fun e w' => e = .returned (.int .i64 (rankM p n R : Nat)) ∧ Below lo w w') := by
  rcases Nat.eq_zero_or_pos R.length with hm0 | hm0
  · have e := List.eq_nil_of_length_eq_zero hm0
    subst e
    rw [rankM_nil]
    have hform : ∃ a c, u = .slice a 0 c := by
      have hl := h.len
      rcases h.own.2 with ⟨hv, _⟩ | ⟨g, cap, _, hv, _⟩
      · exact ⟨_, _, hv⟩
      · rw [hl] at hv; exact ⟨_, _, hv⟩
    obtain ⟨a, c, rfl⟩ := hform
    clear h hm0 hRl hR
    go_enter Try.func63, Try.ntmps63
    go_wp2_with fail
    refine wp_loop_rounds 1 ?_
    rw [rounds_succ]
    go_wp2
    go_ret
    exact ⟨rfl, Below.refl _ _⟩
  obtain ⟨m, hm⟩ : ∃ m, m = R.length := ⟨_, rfl⟩
  rw [← hm] at hm0 hRl
  have hform : ∃ G c, u = .slice (some ⟨G, 0, none⟩) m c := by
    obtain ⟨G, c, hu⟩ := h.own.form (by rw [h.len, ← hm]; exact hm0)
    rw [h.len, ← hm] at hu
    exact ⟨G, c, hu⟩
  obtain ⟨G, c0, rfl⟩ := hform
  have HM := Lib.hid hm
  have HP := Lib.hid hp
  have hp2 : 2 ≤ p := by rcases hp with rfl | rfl <;> omega
  have hp3 : p ≤ 3 := by rcases hp with rfl | rfl <;> omega
  have hpb : (p == 0) = false := by simp; omega
  have hpn : p ≠ 0 := by omega
  have HINV := Lib.hid (runM_inv hp hR)
  have HT0 := Lib.hid h
  clear h hm hp hR
  have hloG : lo ≤ G := (HT0.out.own.blkP G rfl).1
  go_enter Try.func63, Try.ntmps63
  go_wp2_with fail
  go_loopw [5, 6] (fun r i wr => ∃ (c k : Nat) (us : List Value) (S : List (List Int)), c ≤ n ∧ i = .int .i64 (c : Int) ∧ r = .int .i64 (k : Int) ∧ Below lo w wr ∧ TabL wr lo (.slice (some ⟨G, 0, none⟩) m c0) us S ∧ Hid (runM p R c = (S, k))) (fun _ i _ => n - (intOf i).toNat)
  case atStart => exact ⟨0, 0, us0, R, Nat.zero_le _, rfl, rfl, Below.refl _ _, HT0.out, Lib.hid rfl⟩
  case round =>
    obtain ⟨c, k, us, S, hc, rfl, rfl, hB, hT, HS⟩ := hrel
    have HI := HINV.out c hc
    rw [HS.out] at HI
    have hSl : S.length = m := HI.len.trans HM.out.symm
    have hkm : k ≤ m := by have := HI.le; dsimp only at this; omega
    have HWF := Lib.hid (fun i (hi : i < m) => HI.wf (S[i]?.getD []) (by rw [List.getElem?_eq_getElem (by rw [hSl]; exact hi)]; exact List.getElem_mem _))
    have HZ := Lib.hid (fun i (h1 : k ≤ i) (h2 : i < m) j hj => HI.zero i h1 (by show i < S.length; omega) j hj)
    have HB := Lib.hid hB
    have HT := Lib.hid hT
    have d0 : decide ((0 : Int) < (m : Int)) = true := by simp; omega
    obtain ⟨z1, z2, e0, _⟩ := hT.cel (i := 0) (by omega) (HWF.out 0 hm0).1 hn0 (by omega)
    clear HI hB hT
    by_cases hcn : c < n
    · have d1 : decide ((c : Int) < (n : Int)) = true := by simp; omega
      go_wp2_with fail
      clear d0 d1 e0
      obtain ⟨V, hV⟩ : ∃ V, V = wr := ⟨_, rfl⟩
      rw [← hV] at HB HT ⊢
      clear hV
      go_loopw [7, 8] (fun b i wq => wq = V ∧ ∃ q : Nat, k ≤ q ∧ q ≤ m ∧ i = .int .i64 (q : Int) ∧ ((b = .int .i64 (-1) ∧ Hid (∀ a, k ≤ a → a < q → vec (S[a]?.getD []) c = 0)) ∨ (∃ t : Nat, q = t + 1 ∧ b = .int .i64 (t : Int) ∧ k ≤ t ∧ Hid (vec (S[t]?.getD []) c ≠ 0 ∧ ∀ a, k ≤ a → a < t → vec (S[a]?.getD []) c = 0)))) (fun b i _ => m - (intOf i).toNat)
      case atStart => exact ⟨rfl, k, Nat.le_refl _, hkm, rfl, .inl ⟨rfl, Lib.hid fun a h1 h2 => by omega⟩⟩
      case round =>
        obtain ⟨rfl, q, hkq, hqm, rfl, hb⟩ := hrel
        rcases hb with ⟨rfl, HA⟩ | ⟨t, rfl, rfl, hkt, HA⟩
        · by_cases hql : q < m
          · have d0 : decide ((q : Int) < (m : Int)) = true := by simp; omega
            obtain ⟨g, cap, e1, _, _, e2, _⟩ := HT.out.cel (i := q) (by omega) (HWF.out q hql).1 hn0 (by omega)
            have e3 := (e2 c hcn).1
            have i0 : (0 : Int) ≤ (q : Int) := by omega
            have i1 : (q : Int) < (m : Int) := by omega
            have i2 : (0 : Int) ≤ (c : Int) := by omega
            have i3 : (c : Int) < (n : Int) := by omega
            clear e2
            obtain ⟨y, hy⟩ : ∃ y, y = vec (S[q]?.getD []) c := ⟨_, rfl⟩
            rw [← hy] at e3
            have HY := Lib.hid hy
            clear hy
            by_cases hv : y = 0
            · subst hv
              go_wp2
              go_roundw
              case rel => exact ⟨trivial, q + 1, by omega, by omega, by go_num, .inl ⟨rfl, Lib.hid fun a h1 h2 => by
                by_cases e : a = q
                · subst e; exact HY.out.symm
                · exact HA.out a h1 (by omega)⟩⟩
              case measure => simp [intOf]; omega
            · have d1 : (y != 0) = true := by simpa using hv
              have HV := Lib.hid hv
              clear hv
              go_wp2
              go_roundw
              case rel => exact ⟨trivial, q + 1, by omega, by omega, by go_num, .inr ⟨q, rfl, rfl, hkq, Lib.hid ⟨by rw [← HY.out]; exact HV.out, HA.out⟩⟩⟩
              case measure => simp [intOf]; omega
          · have d0 : decide ((q : Int) < (m : Int)) = false := by simp; omega
            have HN := Lib.hid (show runM p R (c + 1) = (S, k) by
              rw [runM_succ, HS.out]
              unfold colM
              dsimp only
              rw [bestM_no fun a h1 h2 => HA.out a h1 (by omega)])
            clear HA
            go_wp2
            go_roundw
            case rel => exact ⟨c + 1, k, us, S, by omega, by go_num, rfl, HB.out, HT.out, HN⟩
            case measure => simp [intOf]; omega
        · have d0 : decide ((t : Int) < (0 : Int)) = false := by simp
          have HN := Lib.hid (show runM p R (c + 1) = (tailM p c k (S[t]?.getD []) (swpM S k t), k + 1) by
            rw [runM_succ, HS.out]
            unfold colM
            dsimp only
            rw [bestM_eq hkt (by omega) HA.out.1 HA.out.2])
          have htm : t < m := by omega
          have hkm2 : k < m := by omega
          obtain ⟨gt, ct, t1, t2, t3, _, _⟩ := HT.out.cel (i := t) (by omega) (HWF.out t htm).1 hn0 (by omega)
          obtain ⟨gk, ck, k1, k2, k3, _, _⟩ := HT.out.cel (i := k) (by omega) (HWF.out k hkm2).1 hn0 (by omega)
          obtain ⟨s1, s2⟩ := HT.out.own.setT (i := t) (x := .slice (some ⟨gk, 0, none⟩) n ck)
          obtain ⟨ux, hux⟩ : ∃ ux, (us.set t (.slice (some ⟨gk, 0, none⟩) n ck))[k]? = some ux := ⟨_, List.getElem?_eq_getElem (by rw [List.length_set, HT.out.len]; omega)⟩
          have f0 := s1.at_ hux
          have f1 := f0.1
          have f2 := f0.2.2.2.2
          clear f0
          obtain ⟨v1, v2⟩ := HT.out.swp k3 t3
          have HT2 := Lib.hid v1
          have HB2 := Lib.hid (HB.out.grown v2 (by have := (HT.out.own.blkP G rfl).2; omega) (fun r e => by cases e; exact hloG))
          have hu2 : (swpG (.slice none 0 0) us k t)[k]? = some (.slice (some ⟨gt, 0, none⟩) n ct) := by
            rw [swpG_at (by rw [HT.out.len]; omega) (by rw [HT.out.len]; omega), if_pos rfl]; exact t3
          have HWF2 := Lib.hid (fun i (hi : i < m) => (show Wf p n ((swpG [] S k t)[i]?.getD []) by
            rw [swpG_at (by omega) (by omega)]
            exact HWF.out _ (by split <;> (try split) <;> omega)))
          have HOW := Lib.hid (show (swpG [] S k t)[k]?.getD [] = S[t]?.getD [] by rw [swpG_at (by omega) (by omega), if_pos rfl])
          have HN2 := Lib.hid (show runM p R (c + 1) = (tailM p c k (S[t]?.getD []) (swpG [] S k t), k + 1) from HN.out)
          have HZO := Lib.hid (HZ.out t hkt htm)
          have HWO := Lib.hid (HWF.out t htm)
          have hl2 : (swpG [] S k t).length = m := by simp [swpG, hSl]
          have i0 : (0 : Int) ≤ (t : Int) := by omega
          have i1 : (t : Int) < (m : Int) := by omega
          have i2 : (0 : Int) ≤ (k : Int) := by omega
          have i3 : (k : Int) < (m : Int) := by omega
          clear s1 s2 hux v1 v2 t3 k3 HA HN HS HT HWF HZ HB
          go_wp2_with fail
          all_goals
            clear t1 t2 k1 k2 f1 f2 d0 i0 i1 i2 i3
            obtain ⟨W2, hW2⟩ : ∃ W2, W2 = (wr.setCell ⟨G, t, none⟩ (.slice (some ⟨gk, 0, none⟩) n ck)).setCell ⟨G, k, none⟩ (.slice (some ⟨gt, 0, none⟩) n ct) := ⟨_, rfl⟩
            rw [← hW2] at HT2 HB2 ⊢
            clear hW2
            obtain ⟨own, how⟩ : ∃ own, own = S[t]?.getD [] := ⟨_, rfl⟩
            rw [← how] at HOW HN2 HZO HWO
            obtain ⟨S2, hS2⟩ : ∃ S2, S2 = swpG [] S k t := ⟨_, rfl⟩
            rw [← hS2] at HOW HN2 HWF2 HT2 hl2
            obtain ⟨us2, hus2⟩ : ∃ us2, us2 = swpG (.slice none 0 0) us k t := ⟨_, rfl⟩
            rw [← hus2] at HT2 hu2
            clear how hS2 hus2 hSl
            go_loopw [10] (fun i wq => ∃ a : Nat, k + 1 ≤ a ∧ a ≤ m ∧ i = .int .i64 (a : Int) ∧ Below lo w wq ∧ TabL wq lo (.slice (some ⟨G, 0, none⟩) m c0) us2 (tailK p c k own S2 a)) (fun i _ => m - (intOf i).toNat)
            case atStart => exact ⟨k + 1, Nat.le_refl _, hkm2, by go_num, HB2.out, by rw [tailK_start]; exact HT2.out⟩
            case round =>
              obtain ⟨a, hka, ham, rfl, hB, hT⟩ := hrel
              have HB := Lib.hid hB
              have HT := Lib.hid hT
              clear hB hT
              by_cases hal : a < m
              · have hwa := HWF2.out a hal
                obtain ⟨r, hr⟩ : ∃ r, r = S2[a]?.getD [] := ⟨_, rfl⟩
                have HR := Lib.hid hr
                rw [← hr] at hwa
                have hra : (tailK p c k own S2 a)[a]?.getD [] = r := by rw [tailK_at (by omega), if_neg (by omega)]; exact hr.symm
                have hrk : (tailK p c k own S2 a)[k]?.getD [] = own := by rw [tailK_at (by omega), if_neg (by omega)]; exact HOW.out
                have hlt : (tailK p c k own S2 a).length = m := by rw [tailK_len]; exact hl2
                obtain ⟨ga, ca, a1, _, a3, a2, _⟩ := HT.out.cel (i := a) (n := n) (by omega) (by rw [hra]; exact hwa.1) hn0 (by omega)
                obtain ⟨_, b2, _⟩ := HT.out.hd (i := k) (n := n) (by omega) (by rw [hrk]; exact HWO.out.1) hn0 (by omega) hu2
                rw [hra] at a2
                rw [hrk] at b2
                have c1 := (a2 c hcn).1
                have c2 := (b2 c hcn).1
                have hlow := Lib.hid (show lo ≤ wr.heap.size by have := (HT.out.own.blkP G rfl).2; omega)
                have HWA := Lib.hid hwa
                obtain ⟨X, hX⟩ : ∃ X, X = vec r c := ⟨_, rfl⟩
                obtain ⟨Y, hY⟩ : ∃ Y, Y = vec own c := ⟨_, rfl⟩
                have hx := hwa.at (by omega) c
                have hy := HWO.out.at (by omega) c
                rw [← hX] at c1 hx
                rw [← hY] at c2 hy
                obtain ⟨m0, m1⟩ := two_three HP.out hx.1 hx.2 hy.1 hy.2
                have hw1 : IntKind.i64.wrap (X * Y) = X * Y := IntWalk.i64_in _ (by omega)
                have hmd : Int.tmod (X * Y) p = X * Y % p := Int.tmod_eq_emod_of_nonneg m0
                obtain ⟨t, ht⟩ : ∃ t, t = X * Y % p := ⟨_, rfl⟩
                have ht0 : 0 ≤ t := by rw [ht]; exact Int.emod_nonneg _ hpn
                have ht1 : t < p := by rw [ht]; exact Int.emod_lt_of_pos _ (by omega)
                have hwt : IntKind.i64.wrap t = t := IntWalk.i64_in _ (by omega)
                rw [← ht] at hmd
                have HCL := Lib.hid (show addL p (p - t) own r = clrM p c own r by unfold clrM; rw [← hX, ← hY, ← ht])
                have i0 : (0 : Int) ≤ (a : Int) := by omega
                have i1 : (a : Int) < (m : Int) := by omega
                have i2 : (0 : Int) ≤ (c : Int) := by omega
                have i3 : (c : Int) < (n : Int) := by omega
                have d0 : decide ((a : Int) < (m : Int)) = true := by simp; omega
                have HST := Lib.hid (show (tailK p c k own S2 a).set a (rowJ n p (p - t) own r c) = tailK p c k own S2 a by
                  refine set_self ?_
                  rw [List.getElem?_eq_getElem (by omega)]
                  congr 1
                  rw [List.getElem?_eq_getElem (by omega)] at hra
                  rw [rowJ_start (by omega) hwa HZO.out]
                  exact hra)
                have HEN := Lib.hid (show (tailK p c k own S2 a).set a (rowJ n p (p - t) own r n) = tailK p c k own S2 (a + 1) by
                  rw [rowJ_end hwa HWO.out.1, HCL.out]
                  exact tailK_set (by omega) (by omega) (by rw [← hr]))
                clear hr hra hrk a2 b2 hwa hX hY ht hx hy m0 m1 HCL
                go_wp2_with fail
                go_still_tail 11, (by kernel_rfl)
                change wpList _ _ _ _ _ wr.drew
                have HTd := Lib.hid (HT.out.below ((Below.refl wr.heap.size wr).drew))
                have HBd := Lib.hid (show Below lo w wr.drew from HB.out.drew)
                obtain ⟨W3, hW3⟩ : ∃ W3, W3 = wr.drew := ⟨_, rfl⟩
                have d1 : W3.cell? ⟨ga, c, none⟩ = some (.int .i64 X) := by rw [hW3]; exact c1
                have d2 : W3.cell? ⟨gt, c, none⟩ = some (.int .i64 Y) := by rw [hW3]; exact c2
                rw [← hW3] at HTd HBd ⊢
                clear hW3 c1 c2 HT HB
                go_wp2_with fail
                clear d1 d2 hw1 hmd hwt a1 i0 i1 i2 i3 d0
                go_loopw [13] (fun j wq => ∃ b : Nat, c ≤ b ∧ b ≤ n ∧ j = .int .i64 (b : Int) ∧ Below lo w wq ∧ TabL wq lo (.slice (some ⟨G, 0, none⟩) m c0) us2 ((tailK p c k own S2 a).set a (rowJ n p (p - t) own r b))) (fun j _ => n - (intOf j).toNat)
                case atStart => exact ⟨c, Nat.le_refl _, by omega, rfl, HBd.out, by rw [HST.out]; exact HTd.out⟩
                case round =>
                  obtain ⟨b, hcb, hbn, rfl, hB, hT⟩ := hrel
                  by_cases hbl : b < n
                  · obtain ⟨L, hL⟩ : ∃ L, L = (tailK p c k own S2 a).set a (rowJ n p (p - t) own r b) := ⟨_, rfl⟩
                    have hLl : L.length = m := by rw [hL, List.length_set]; exact hlt
                    have hra2 : L[a]?.getD [] = rowJ n p (p - t) own r b := by rw [hL, List.getElem?_set_self (by omega)]; rfl
                    have hrk2 : L[k]?.getD [] = own := by rw [hL, List.getElem?_set_ne (by omega), tailK_at (by omega), if_neg (by omega)]; exact HOW.out
                    rw [← hL] at hT
                    obtain ⟨_, a2, hloa⟩ := hT.hd (i := a) (n := n) (by omega) (by rw [hra2, rowJ_len]) hn0 (by omega) a3
                    obtain ⟨_, b2, _⟩ := hT.hd (i := k) (n := n) (by omega) (by rw [hrk2]; exact HWO.out.1) hn0 (by omega) hu2
                    obtain ⟨c1, f1⟩ := a2 b hbl
                    have c2 := (b2 b hbl).1
                    rw [hra2, show vec (rowJ n p (p - t) own r b) b = vec r b from rowJ_at hbl] at c1
                    rw [hrk2] at c2
                    have hsst := hT.sst (k := a) (j := b) a3 (by rw [hra2, rowJ_len]; exact hbl) ((vec r b + (p - t) * vec own b) % p)
                    rw [hra2, rowJ_set hbl, hL, List.set_set] at hsst
                    obtain ⟨v1, v2⟩ := hsst
                    have hsz := (hT.own.blkP G rfl).2
                    have HB6 := Lib.hid (show Below lo w (wr.setCell ⟨ga, b, none⟩ (.int .i64 ((vec r b + (p - t) * vec own b) % p))).drew from (hB.grown v2 (by omega) (fun r e => by cases e; exact hloa)).drew)
                    have HT6 := Lib.hid (v1.below (((Below.refl _ (wr.setCell ⟨ga, b, none⟩ (.int .i64 ((vec r b + (p - t) * vec own b) % p)))).drew)))
                    have hx := HWA.out.at (by omega) b
                    have hy := HWO.out.at (by omega) b
                    clear hB hT a2 b2 v1 v2 hra2 hrk2 hL hLl hloa hsz
                    obtain ⟨X, hX⟩ : ∃ X, X = vec r b := ⟨_, rfl⟩
                    obtain ⟨Y, hY⟩ : ∃ Y, Y = vec own b := ⟨_, rfl⟩
                    rw [← hX, ← hY] at HB6 HT6
                    rw [← hX] at c1 hx
                    rw [← hY] at c2 hy
                    clear hX hY
                    have m0 : 0 ≤ (p - t) * Y := Int.mul_nonneg (by omega) hy.1
                    have m1 : (p - t) * Y ≤ 3 * 3 := Int.mul_le_mul (by omega) (by omega) hy.1 (by omega)
                    have hw0 : IntKind.i64.wrap (p - t) = p - t := IntWalk.i64_in _ (by omega)
                    have hw1 : IntKind.i64.wrap ((p - t) * Y) = (p - t) * Y := IntWalk.i64_in _ (by omega)
                    have hw2 : IntKind.i64.wrap (X + (p - t) * Y) = X + (p - t) * Y := IntWalk.i64_in _ (by omega)
                    have hmd : Int.tmod (X + (p - t) * Y) p = (X + (p - t) * Y) % p := Int.tmod_eq_emod_of_nonneg (by omega)
                    have z0 : 0 ≤ (X + (p - t) * Y) % p := Int.emod_nonneg _ hpn
                    have z1' : (X + (p - t) * Y) % p < p := Int.emod_lt_of_pos _ (by omega)
                    have hw3 : IntKind.i64.wrap ((X + (p - t) * Y) % p) = (X + (p - t) * Y) % p := IntWalk.i64_in _ (by omega)
                    have d0 : decide ((b : Int) < (n : Int)) = true := by simp; omega
                    have i0 : (0 : Int) ≤ (b : Int) := by omega
                    have i1 : (b : Int) < (n : Int) := by omega
                    clear z0 z1' m0 m1 hx hy
                    go_wp2_with fail
                    go_still_tail 18, (by kernel_rfl)
                    change wpList _ _ _ _ _ wr.drew
                    have d1 : wr.drew.cell? ⟨ga, b, none⟩ = some (.int .i64 X) := c1
                    have d2 : wr.drew.frozen? ⟨ga, b, none⟩ = false := f1
                    clear c1 c2 f1
                    go_wp2
                    go_roundw
                    case rel => exact ⟨b + 1, by omega, by omega, by go_num, HB6.out, HT6.out⟩
                    case measure => simp [intOf]; omega
                  · have e : b = n := by omega
                    have HT5 := hT
                    rw [e, HEN.out] at HT5
                    have HT6 := Lib.hid HT5
                    have HB6 := Lib.hid hB
                    have d0 : decide ((b : Int) < (n : Int)) = false := by simp; omega
                    clear hB hT HT5 e
                    go_wp2
                    go_roundw
                    case rel => exact ⟨a + 1, by omega, by omega, by go_num, HB6.out, HT6.out⟩
                    case measure => simp [intOf]; omega
              · have e : a = m := by omega
                have HT3 := HT.out
                rw [e, show tailK p c k own S2 m = tailM p c k own S2 by rw [← hl2]; exact tailK_end (by omega)] at HT3
                have HT4 := Lib.hid HT3
                have d0 : decide ((a : Int) < (m : Int)) = false := by simp; omega
                clear HT3 e
                go_wp2
                go_roundw
                case rel => exact ⟨c + 1, k + 1, us2, _, by omega, by go_num, by go_num, HB.out, HT4.out, HN2⟩
                case measure => simp [intOf]; omega
    · have e : c = n := by omega
      have HRK := Lib.hid (show rankM p n R = k by unfold rankM; rw [← e, HS.out])
      have d1 : decide ((c : Int) < (n : Int)) = false := by simp; omega
      clear e
      go_wp2
      go_ret
      exact ⟨by rw [HRK.out]; rfl, HB.out⟩
end Go.Proofs.Ytahgialnhomefaa

namespace Go.Proofs.Ytahgialnhomefaa
open Go.RowKit Go.Maps
set_option maxRecDepth 100000 in
set_option maxHeartbeats 4000000 in
theorem specRankModulo_any (v : Int) (s : Value) (bs : List Blk) (p : Int) (w : World) (h : SB w s bs) :
    Calls Try.prog 35 #[.agg #[.int .i64 v, s], .int .i64 p] w (RV (rkV v bs p) w) := by
  have hs := h.slice
  have hbA : Below w.heap.size w (w.alloc (.cells #[.int .i64 v, s] 30)) := (Below.refl _ _).alloc (Nat.le_refl _) _
  have HIS := Lib.hid (l01Is_any v s bs _ (h.below hbA (Nat.le_refl _)))
  have HBA := Lib.hid hbA
  by_cases hi : isSysImpl v bs = true
  · have hv0 : 0 ≤ v := by
      simp only [isSysImpl, Bool.and_eq_true, decide_eq_true_eq] at hi
      omega
    obtain ⟨n, rfl⟩ := Int.eq_ofNat_of_zero_le hv0
    obtain ⟨hv3, hv15, hb35⟩ := sys_size hi
    have HV := Lib.hid (show rkV (n : Int) bs p = (if p = 2 then .tuple #[.int .i64 ((basL 2 (rowsB n bs)).length : Nat), .int .i64 0]
    else if p = 3 then .tuple #[.int .i64 ((basL 3 (rowsB n bs)).length : Nat), .int .i64 0]
    else .tuple #[.int .i64 0, .int .i64 2]) by unfold rkV; rw [if_pos hi]; rfl)
    rw [hi] at HIS
    have HRO := Lib.hid fun W (hW : Below w.heap.size w W) => l09Rows_any n s bs W (h.below hW (Nat.le_refl _)) hi
    have HRK := Lib.hid fun (p : Int) (hp : P23 p) (lo : Nat) (u : Value) (us : List Value) W (hT : TabL W lo u us (rowsB n bs)) => l09Rank_any hp n (by omega) (by omega) (rowsB n bs) (rowsB_wf (by rcases hp with rfl | rfl <;> omega) n bs) (by rw [rowsB_len]; omega) lo u us W hT
    have HEQ := Lib.hid fun (p : Int) (hp : P23 p) => rankM_eq hp (rowsB_wf (p := p) (by rcases hp with rfl | rfl <;> omega) n bs)
    rw [HV.out]
    obtain ⟨R, hR⟩ : ∃ R, R = rowsB n bs := ⟨_, rfl⟩
    rw [← hR] at HRO HRK HEQ ⊢
    clear h hi hbA HV hR hv0 hv3 hv15 hb35
    obtain ⟨a0, c0, rfl⟩ := hs
    by_cases h2 : p = 2
    · subst h2
      rw [if_pos rfl]
      go_enter Try.func35, Try.ntmps35
      go_wp2_with fail
      refine HIS.out.mono ?_
      rintro e w1 ⟨rfl, hb1⟩
      have hB1 := HBA.out.trans (hb1.mono (by simp))
      have d0 : w1.cell? ⟨w.heap.size, 0, none⟩ = some (.int .i64 (n : Int)) := (hb1.cell (p := ⟨w.heap.size, 0, none⟩) (by simp)).trans (by simp [go_sem])
      have d1 : w1.cell? ⟨w.heap.size, 1, none⟩ = some (.slice a0 bs.length c0) := (hb1.cell (p := ⟨w.heap.size, 1, none⟩) (by simp)).trans (by simp [go_sem])
      have HB1 := Lib.hid hB1
      have HQ := Lib.hid (HRO.out w1 hB1)
      clear hb1 hB1 HBA HIS HRO
      go_wp2_with fail
      refine HQ.out.mono ?_
      rintro e w2 ⟨u, us, rfl, hT, hb2⟩
      have HB2 := Lib.hid (HB1.out.trans (hb2.mono HB1.out.size))
      have HZ := Lib.hid HB1.out.size
      have HQ2 := Lib.hid (HRK.out 2 (.inl rfl) _ _ _ _ hT)
      clear hb2 hT d0 d1
      go_wp2_with fail
      refine HQ2.out.mono ?_
      rintro e w3 ⟨rfl, hb3⟩
      have hB3 := HB2.out.trans (hb3.mono HZ.out)
      rw [HEQ.out 2 (.inl rfl)]
      clear hb3
      go_wp2
      go_ret2
      exact RV_of rfl hB3
    · rw [if_neg h2]
      have q2 : (p != 2) = true := by simpa using h2
      by_cases h3 : p = 3
      · subst h3
        rw [if_pos rfl]
        clear h2 q2
        go_enter Try.func35, Try.ntmps35
        go_wp2_with fail
        refine HIS.out.mono ?_
        rintro e w1 ⟨rfl, hb1⟩
        have hB1 := HBA.out.trans (hb1.mono (by simp))
        have d0 : w1.cell? ⟨w.heap.size, 0, none⟩ = some (.int .i64 (n : Int)) := (hb1.cell (p := ⟨w.heap.size, 0, none⟩) (by simp)).trans (by simp [go_sem])
        have d1 : w1.cell? ⟨w.heap.size, 1, none⟩ = some (.slice a0 bs.length c0) := (hb1.cell (p := ⟨w.heap.size, 1, none⟩) (by simp)).trans (by simp [go_sem])
        have HB1 := Lib.hid hB1
        have HQ := Lib.hid (HRO.out w1 hB1)
        clear hb1 hB1 HBA HIS HRO
        go_wp2_with fail
        refine HQ.out.mono ?_
        rintro e w2 ⟨u, us, rfl, hT, hb2⟩
        have HB2 := Lib.hid (HB1.out.trans (hb2.mono HB1.out.size))
        have HZ := Lib.hid HB1.out.size
        have HQ2 := Lib.hid (HRK.out 3 (.inr rfl) _ _ _ _ hT)
        clear hb2 hT d0 d1
        go_wp2_with fail
        refine HQ2.out.mono ?_
        rintro e w3 ⟨rfl, hb3⟩
        have hB3 := HB2.out.trans (hb3.mono HZ.out)
        rw [HEQ.out 3 (.inr rfl)]
        clear hb3
        go_wp2
        go_ret2
        exact RV_of rfl hB3
      · rw [if_neg h3]
        have q3 : (p != 3) = true := by simpa using h3
        clear h2 h3
        go_enter Try.func35, Try.ntmps35
        go_wp2_with fail
        refine HIS.out.mono ?_
        rintro e w1 ⟨rfl, hb1⟩
        have hB1 := HBA.out.trans (hb1.mono (by simp))
        clear hb1
        go_wp2
        go_ret2
        exact RV_of rfl hB1
  · have HV := Lib.hid (show rkV v bs p = .tuple #[.int .i64 0, .int .i64 1] by unfold rkV; rw [if_neg hi])
    rw [HV.out]
    have hi2 : isSysImpl v bs = false := by simpa using hi
    rw [hi2] at HIS
    clear h hi hi2 hbA HV
    obtain ⟨a0, c0, rfl⟩ := hs
    go_enter Try.func35, Try.ntmps35
    go_wp2_with fail
    refine HIS.out.mono ?_
    rintro e w1 ⟨rfl, hb1⟩
    have hB1 := HBA.out.trans (hb1.mono (by simp))
    clear hb1
    go_wp2
    go_ret2
    exact RV_of rfl hB1
end Go.Proofs.Ytahgialnhomefaa

namespace Go.Proofs.Ytahgialnhomefaa
open Go.RowKit Go.Maps
set_option maxRecDepth 100000 in
theorem FnExactRankModulo_long (v : Int) (s : Value) (bs : List Blk) (pk : Int) (w : World) (h : InB w s bs) (hl : ¬ bs.length ≤ 1048576) : Calls Try.prog 10 #[.agg #[.int .i64 v, s], .int .i64 pk] w (RV (.bool true) w) := by
  have hsl := h.slice
  have hbd := h.2.1
  have hsz := szSystem_any v s bs.length hsl (by omega) 1048576 (by omega) (by omega)
  rw [if_pos (by omega)] at hsz
  have HSZ := Lib.hid hsz
  clear hsz h
  obtain ⟨a, c, rfl⟩ := hsl
  go_enter Try.func10, Try.ntmps10
  go_wp2_with (go_at_call 14; refine (HSZ.out _).mono ?_; rintro e w1 ⟨rfl, hb1⟩)
  go_ret
  exact RV_of rfl (((Below.refl _ _).alloc (Nat.le_refl _) _).trans (hb1.mono (by simp)))

set_option maxRecDepth 100000 in
set_option maxHeartbeats 1000000 in
theorem FnExactRankModulo_main (v : Int) (s : Value) (bs : List Blk) (pk : Int) (_h1 : WF pk) (w : World) (h : InB w s bs) (hl : bs.length ≤ 1048576) : Calls Try.prog 10 #[.agg #[.int .i64 v, s], .int .i64 pk] w (RV (.bool true) w) := by
  have hsl := h.slice
  have hbd := h.2.1
  have hsz := szSystem_any v s bs.length hsl (by omega) 1048576 (by omega) (by omega)
  have hsb := h.sb hl
  rw [if_neg (by omega)] at hsz
  obtain ⟨m, hm⟩ : ∃ m, m = (1048576 : Int) - (bs.length : Int) := ⟨_, rfl⟩
  rw [← hm] at hsz
  have hm0 : 0 ≤ m := by omega
  have HSZ := Lib.hid hsz
  have HSB := Lib.hid hsb
  have hwf := h.1
  have HWF := Lib.hid hwf
  have HBD := Lib.hid (show bs.length ≤ 1100000 by omega)
  clear hsz hsb hm h hl hbd hwf
  have hsp : ∀ (W : World) (t : Value), SB W t bs → Calls Try.prog 35 #[.agg #[.int .i64 v, t], .int .i64 pk] W (RV (rkV v bs pk) W) := fun W t ht => specRankModulo_any v t bs pk W ht
  have him : ∀ (W : World) (t : Value), SB W t bs → Calls Try.prog 36 #[.agg #[.int .i64 v, t], .int .i64 pk] W (RV (rkV v bs pk) W) := fun W t ht => RankModulo_any v t bs pk W ht
  obtain ⟨η, κ, hval⟩ : ∃ η κ, rkV v bs pk = .tuple #[.int .i64 η, .int .i64 κ] := by
    unfold rkV
    repeat (first | exact ⟨_, _, rfl⟩ | split)
  rw [hval] at hsp him
  have HSP := Lib.hid hsp
  have HIM := Lib.hid him
  clear hval hsp him
  have hne1 : (η != η) = false := by simp
  have hne2 : (κ != κ) = false := by simp
  obtain ⟨a, c, rfl⟩ := hsl
  go_enter Try.func10, Try.ntmps10
  go_wp2_with fail
  refine (HSZ.out _).mono ?_
  rintro e w1 ⟨rfl, hb1⟩
  have p0 := cell_new hb1 0 rfl
  have p1 := cell_new hb1 1 rfl
  have hz1 := hb1.size
  simp at hz1
  have hbw : Below w.heap.size w w1 := ((Below.refl _ _).alloc (Nat.le_refl _) _).trans (hb1.mono (by simp))
  clear hb1
  go_wp2_with fail
  refine (toSystem_any v _ bs _ (HSB.out.below hbw (Nat.le_refl _))).mono ?_
  rintro e w2 ⟨s2, rfl, ho2, hb2⟩
  have hsb2 := ho2.sb HWF.out HBD.out
  go_wp2_with fail
  refine (HSP.out _ _ hsb2).mono ?_
  rintro e w3 ⟨rfl, hb3⟩
  have hb13 := hb2.trans (hb3.mono hb2.size)
  have p0' := (hb13.cell (p := ⟨w.heap.size, 0, none⟩) (by show w.heap.size < _; omega)).trans p0
  have p1' := (hb13.cell (p := ⟨w.heap.size, 1, none⟩) (by show w.heap.size < _; omega)).trans p1
  have hz3 := hb13.size
  have hbw3 := hbw.trans (hb13.mono (by omega))
  clear p0 p1 hb2 hb3 hb13 ho2 hsb2 hbw
  go_wp2_with fail
  refine (toSystem_any v _ bs _ (HSB.out.below hbw3 (Nat.le_refl _))).mono ?_
  rintro e w4 ⟨s4, rfl, ho4, hb4⟩
  obtain ⟨g, cap, hs4, h41, h42, h43, h44⟩ := id ho4
  subst hs4
  have p0 := (hb4.cell (p := ⟨w.heap.size, 0, none⟩) (by show w.heap.size < _; omega)).trans p0'
  have p1 := (hb4.cell (p := ⟨w.heap.size, 1, none⟩) (by show w.heap.size < _; omega)).trans p1'
  have hz4 := hb4.size
  have hbw4 := hbw3.trans (hb4.mono (by omega))
  have hsb4 := ho4.sb HWF.out HBD.out
  clear p0' p1' hb4 hbw3 h41 h43 h44 ho4
  go_wp2_with fail
  refine (HIM.out _ _ (hsb4.below ((Below.refl _ _).alloc (Nat.le_refl _) _) (Nat.le_refl _))).mono ?_
  rintro e w5 ⟨rfl, hb5⟩
  have q0 := cell_new hb5 0 rfl
  have q1 := cell_new hb5 1 rfl
  have p0' := (hb5.cell (p := ⟨w.heap.size, 0, none⟩) (by simp; omega)).trans (cell_past p0 (by omega))
  have p1' := (hb5.cell (p := ⟨w.heap.size, 1, none⟩) (by simp; omega)).trans (cell_past p1 (by omega))
  have hz5 := hb5.size
  simp at hz5
  have hbw5 := (hbw4.alloc hbw4.size _).trans (hb5.mono (by simp; omega))
  have hsb5 := hsb4.below (((Below.refl _ _).alloc (Nat.le_refl _) _).trans (hb5.mono (by simp))) (Nat.le_refl _)
  clear p0 p1 hb5 hbw4 hsb4
  go_wp2
  go_region_with (first | (go_at_call 16; refine (toSystem_any v _ bs _ ?_).mono ?_; (exact HSB.out.below hbw5.drew (Nat.le_refl _)); rintro e w6 ⟨s6, rfl, ho6, hb6⟩; obtain ⟨g6, cap6, hs6, h61, h62, h63, h64⟩ := id ho6; subst hs6; have hsb6 := ho6.sb HWF.out HBD.out; have hsb56 := hsb5.below (Below.trans (Below.refl _ _).drew hb6) (Nat.le_refl _); have r0 := (hb6.cell (p := ⟨w4.heap.size, 0, none⟩) (by show w4.heap.size < _; simp; omega)).trans q0; have r1 := (hb6.cell (p := ⟨w4.heap.size, 1, none⟩) (by show w4.heap.size < _; simp; omega)).trans q1) | (go_at_call 18; refine (eqSystem_same v _ _ bs _ ?_ ?_).mono ?_; (exact hsb56); (exact hsb6); rintro e w7 ⟨rfl, hb7⟩))
  all_goals go_wp2
  all_goals go_ret
  all_goals exact RV_of rfl (hbw5.drew.trans ((hb6.mono (by simp; omega)).trans (hb7.mono (by have := hb6.size; simp at this; omega))))

theorem FnExactRankModulo_any (v : Int) (s : Value) (bs : List Blk) (pk : Int) (_h1 : WF pk) (w : World) (h : InB w s bs) : Calls Try.prog 10 #[.agg #[.int .i64 v, s], .int .i64 pk] w (RV (.bool true) w) := by
  by_cases hl : bs.length ≤ 1048576
  · exact FnExactRankModulo_main v s bs pk _h1 w h hl
  · exact FnExactRankModulo_long v s bs pk w h hl
end Go.Proofs.Ytahgialnhomefaa

namespace Go.Proofs.Ytahgialnhomefaa
open Go.ChangeShapes Go.WideShapes Go.ChangeAt Go.RowKit Go.Deep Go.Joins
theorem ownKnobs : ownKnob Try.prog.godebug = none := by kernel_rfl
section
variable {H : Type} {enc : TypeId × Value → H} {W : World} {base : Nat} {held : Bool}
theorem arrCells : Try.prog.cellsOf 83 = 3 := by kernel_rfl
set_option maxRecDepth 100000 in
theorem open_arr3 {fuel : Nat} {cs : List Value} {x : DataW H × List MemPlace} (h : DataW.trod enc Try.prog W base (fun _ => true) held fuel 83 cs = some x) :
    ∃ a b c : Int, cs = [.int .i64 a, .int .i64 b, .int .i64 c] ∧ (Lit.int .i64 a).wf = true ∧ (Lit.int .i64 b).wf = true ∧ (Lit.int .i64 c).wf = true := by
  obtain ⟨xs, m, rfl, rfl, hl, hx, hat⟩ := DataW.trod_array Try.underlying83 h
  rw [arrCells] at hl
  match cs, hl with
  | [c0, c1, c2], _ =>
    match xs, hx with
    | [x0, x1, x2], _ =>
      have h0 := hat 0 (by omega)
      have h1 := hat 1 (by omega)
      have h2 := hat 2 (by omega)
      rw [int64Cells] at h0 h1 h2
      simp at h0 h1 h2
      obtain ⟨a, ha, _, wa⟩ := DataW.trod_int Try.underlying2 h0
      obtain ⟨b, hb, _, wb⟩ := DataW.trod_int Try.underlying2 h1
      obtain ⟨c, hc, _, wc⟩ := DataW.trod_int Try.underlying2 h2
      simp at ha hb hc
      exact ⟨a, b, c, by rw [ha, hb, hc], wa, wb, wc⟩
theorem add_at (b off i : Nat) : (⟨b, off, none⟩ : Addr).add i = ⟨b, off + i, none⟩ := by
  unfold Addr.add
  split
  · subst_vars; rfl
  · rfl
set_option maxRecDepth 100000 in
theorem open_arrs {fuel : Nat} {s : Value} {x : DataW H × List MemPlace} (h : DataW.trod enc Try.prog W base (fun _ => true) held fuel 22 [s] = some x) : ∃ bs, InB W s bs := by
  rcases open_slice Try.underlying22 h with ⟨hcs, _⟩ | ⟨a, len, cap, m, n, D, Pl, hcs, hb, hl, hm, hmm, hx, hi⟩
  · simp at hcs
    exact ⟨[], by simp, by simp, .inl ⟨none, 0, hcs, rfl⟩⟩
  · simp at hcs
    subst hcs
    simp at hmm
    subst hmm
    have hm' : m ≤ 9223372036854775807 := by unfold maxLen at hm; exact hm
    by_cases h0 : len = 0
    · subst h0
      exact ⟨[], by simp, by simp, .inl ⟨_, _, rfl, rfl⟩⟩
    · have cell : ∀ i, i < m → ∃ y : Blk, WFB y ∧ ∀ j (v : Value), [Value.int .i64 y.a, Value.int .i64 y.b, Value.int .i64 y.c][j]? = some v → W.cell? (a.add (i * 3 + j)) = some v := fun i him => by
        obtain ⟨cs', hc, ht⟩ := hi i him
        obtain ⟨p, q, r, rfl, wp, wq, wr⟩ := open_arr3 ht
        rw [arrCells] at hc
        obtain ⟨_, _, hat⟩ := World.cells?_some hc
        refine ⟨⟨p, q, r⟩, ⟨wp, wq, wr⟩, fun j v hv => ?_⟩
        have hj : j < 3 := by
          have := (List.getElem?_eq_some_iff.1 hv).1
          simpa using this
        rw [← Go.Deep.add_add, hat j hj]
        exact hv
      obtain ⟨F, hF⟩ := choose_lt (α := Blk) cell
      obtain ⟨b, off, spot⟩ := a
      have hc0 := (hF 0 (by omega)).2 0 _ rfl
      have hspot : spot = none := by simpa [Addr.add] using World.cell?_spot hc0
      subst hspot
      refine ⟨(List.range len).map F, ?_, by simp; omega, .inr ⟨b, off, m, by simp, ?_, ?_⟩⟩
      · intro y hy
        obtain ⟨i, hi', rfl⟩ := List.mem_map.1 hy
        exact (hF i (by have := List.mem_range.1 hi'; omega)).1
      · exact block_lt_of_cell hc0
      · intro k hk
        simp at hk
        have e : ((List.range len).map F)[k]?.getD default = F k := by simp [hk]
        rw [e]
        have := (hF k (by omega)).2
        refine ⟨?_, ?_, ?_⟩
        · have h0 := this 0 _ rfl
          rw [add_at] at h0
          exact h0
        · have h1 := this 1 _ rfl
          rw [add_at, ← Nat.add_assoc] at h1
          exact h1
        · have h2 := this 2 _ rfl
          rw [add_at, ← Nat.add_assoc] at h2
          exact h2
theorem isSys : ∃ f0 f1 : Field, Try.prog.underlying 24 = some (.struct #[f0, f1]) ∧ f0.type = 2 ∧ f1.type = 22 ∧ oneCellFields Try.prog #[f0, f1] = true :=
  ⟨_, _, Try.underlying24, rfl, rfl, by kernel_rfl⟩
theorem sysCells : Try.prog.cellsOf 24 = 2 := by kernel_rfl
set_option maxRecDepth 100000 in
theorem open_system {r : Reach} {b0 : Nat} {v : Value} {d : DataW H} {p : List MemPlace} (hv : Value.okWide Try.prog W r b0 24 v) (h : DataW.Trod enc Try.prog W base (fun _ => true) held 24 v d p) :
    ∃ (n : Int) (s : Value) (bs : List Blk), v = .agg #[.int .i64 n, s] ∧ WF n ∧ InB W s bs := by
  obtain ⟨f0, f1, hu, e0, e1, hone⟩ := isSys
  obtain ⟨v0, v1, y0, y1, n, rfl, _, _, h0, h1⟩ := open_agg2 hu hone sysCells hv h
  rw [e0] at h0
  rw [e1] at h1
  obtain ⟨k, hk, _, wk⟩ := DataW.trod_int Try.underlying2 h0
  simp at hk
  subst hk
  obtain ⟨bs, hbs⟩ := open_arrs h1
  exact ⟨k, v1, bs, rfl, wk, hbs⟩
end
end Go.Proofs.Ytahgialnhomefaa

namespace Go.Proofs.Ytahgialnhomefaa
set_option maxRecDepth 100000 in
noncomputable def iniP : { L : List Char // Try.prog.initOrder = String.ofList L } := ⟨_, by unfold Try.prog; rfl⟩
theorem iniL : Try.prog.initOrder.toList = iniP.1 := (congrArg String.toList iniP.2).trans String.toList_ofList
theorem words_cons (c : Char) (r : List Char) (h : c ≠ Char.ofNat 32) : wordsSigns (c :: r) = match wordsSigns r with | w :: ws => (c :: w) :: ws | [] => [[c]] := by
  rw [wordsSigns]
  all_goals first | rfl | exact h | (intro e; exact h e)
theorem words_word : ∀ (a b : List Char), (a.all fun c => c != Char.ofNat 32) = true → wordsSigns (a ++ Char.ofNat 32 :: b) = a :: wordsSigns b
  | [], b, _ => rfl
  | c :: a, b, h => by
    simp only [List.all_cons, Bool.and_eq_true, bne_iff_ne, ne_eq] at h
    rw [List.cons_append, words_cons _ _ h.1, words_word a b (by simpa using h.2)]
set_option maxRecDepth 100000 in
theorem split1 : iniP.1 = iniP.1.take 7 ++ Char.ofNat 32 :: iniP.1.drop 8 := by kernel_rfl
set_option maxRecDepth 100000 in
theorem split2 : iniP.1.drop 8 = (iniP.1.drop 8).take 64 ++ Char.ofNat 32 :: iniP.1.drop 73 := by kernel_rfl
set_option maxRecDepth 100000 in
theorem split3 : iniP.1.drop 73 = (iniP.1.drop 73).take 3 ++ Char.ofNat 32 :: iniP.1.drop 77 := by kernel_rfl
theorem isCut : (iniP.1.drop 73).take 3 = "cut".toList := by kernel_rfl
set_option maxRecDepth 100000 in
theorem isHead : ((iniP.1.take 7 == "harness".toList || iniP.1.take 7 == "ownmain".toList) && isSumSigns ((iniP.1.drop 8).take 64)) = true := by kernel_rfl
theorem wordsL : wordsSigns iniP.1 = iniP.1.take 7 :: (iniP.1.drop 8).take 64 :: "cut".toList :: wordsSigns (iniP.1.drop 77) := by
  rw [← isCut]
  conv => lhs; rw [split1]
  rw [words_word _ _ (by kernel_rfl)]
  conv => lhs; rw [split2]
  rw [words_word _ _ (by kernel_rfl)]
  conv => lhs; rw [split3]
  rw [words_word _ _ (by kernel_rfl)]
theorem behindL : behindMainWord (wordsSigns Try.prog.initOrder.toList) = "cut".toList :: wordsSigns (iniP.1.drop 77) := by
  rw [iniL, wordsL]
  unfold behindMainWord
  simp only [isHead, if_true]
theorem stripL (ws : List (List Char)) : stripLifts liftWords ("cut".toList :: ws) = ([], "cut".toList :: ws) := by kernel_rfl
section
variable (P : Program) (ws : List (List Char)) (h : behindMainWord (wordsSigns P.initOrder.toList) = "cut".toList :: ws)
include h
theorem head_of : P.headLifts = [] := by
  unfold Program.headLifts
  rw [h]
  simp only [stripL]
  kernel_rfl
theorem make_of : P.make = some .cut := by
  unfold Program.make
  rw [h, head_of P ws h]
  kernel_rfl
theorem lifts_of : P.liftsFinal = false := by
  unfold Program.liftsFinal
  rw [h, head_of P ws h]
  kernel_rfl
theorem enter_of (h1 : P.laysLater = false) (h2 : P.bearsReflect = false) (h3 : P.doorFits [] = true) : P.mayEnter = true := by
  unfold Program.mayEnter
  rw [h]
  simp only [stripL]
  rw [h1, h2, h3]
  kernel_rfl
end
theorem mayE : Try.pinned.checked.prog.mayEnter = true := enter_of _ _ behindL (by kernel_rfl) (by kernel_rfl) (by kernel_rfl)
theorem liftsF : Try.pinned.checked.prog.liftsFinal = false := lifts_of _ _ behindL
theorem makeF : Try.pinned.checked.prog.make = some .cut := make_of _ _ behindL
theorem both {a b : Bool} (h : a = true) (k : b = true) : (a && b) = true := by rw [h, k]; rfl
end Go.Proofs.Ytahgialnhomefaa

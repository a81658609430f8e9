
/- areDisjoint of the program. Masks of disjoint blocks: plain. The part of a system on some points: plain. Marking and holding rows of integers. Rows of rows of integers: equality, marks, and that they are still there. Helpers on difference families. spec.l02Square. The model's sets of blocks. -/
import Derived.Test.YtlkjacgpjolbdaaJ5
import Derived.Outline
import Derived.Laws.BitsLemmas
import Derived.Deep.RegionWith
import Derived.Deep.QuietTactic
import Derived.BigQuiet
import Derived.IntWalk
namespace Go.Proofs.Ytlkjacgpjolbdaa
open Go.RowKit Go.Maps
/-- Disjoint blocks, those of the first list being there already. -/
def disGo : List Blk → List Blk → Bool
  | _, [] => true
  | L, b :: r => !(L.any (touch b)) && disGo (b :: L) r
/-- The blocks with the numbers of a list. -/
def blksAt (bs : List Blk) (zs : List Int) : List Blk := zs.map fun z => bs[z.toNat]?.getD default
theorem blksAt_len (bs : List Blk) (zs : List Int) : (blksAt bs zs).length = zs.length := by simp [blksAt]
/-- The set of the first k of them, the last one first. -/
def preB (bs : List Blk) (zs : List Int) (k : Nat) : List Blk := ((blksAt bs zs).take k).reverse
theorem preB_succ {bs : List Blk} {zs : List Int} {k : Nat} (hk : k < zs.length) : preB bs zs (k + 1) = (bs[(zs[k]?.getD 0).toNat]?.getD default) :: preB bs zs k := by
  have h : k < (blksAt bs zs).length := by rw [blksAt_len]; exact hk
  rw [preB, List.take_succ_eq_append_getElem h, List.reverse_append, preB]
  simp [blksAt, hk]
theorem disGo_cons (L : List Blk) (b : Blk) (r : List Blk) : disGo L (b :: r) = (!(L.any (touch b)) && disGo (b :: L) r) := rfl
theorem disGo_nil (L : List Blk) : disGo L [] = true := rfl
theorem drop_blksAt {bs : List Blk} {zs : List Int} {k : Nat} (hk : k < zs.length) : (blksAt bs zs).drop k = (bs[(zs[k]?.getD 0).toNat]?.getD default) :: (blksAt bs zs).drop (k + 1) := by
  have h : k < (blksAt bs zs).length := by rw [blksAt_len]; exact hk
  rw [List.drop_eq_getElem_cons h]
  simp [blksAt, hk]
set_option maxRecDepth 100000 in
set_option maxHeartbeats 1000000 in
theorem areDisjoint_any (v : Int) (s : Value) (bs : List Blk) (t : Value) (zs : List Int) (w : World) (h : SB w s bs) (ht : IB w t zs) (hin : ∀ z ∈ zs, 0 ≤ z ∧ z < (bs.length : Int)) :
    Calls Try.prog 84 #[.agg #[.int .i64 v, s], t] w (RV (.bool (disGo [] (blksAt bs zs))) w) := by
  have hs := h.slice
  have HSB := Lib.hid h
  have hlen := h.2.1
  have htl := ht.1
  have hts : ∃ a c, t = .slice a zs.length c := by rcases ht.2 with ⟨a, c, rfl, rfl⟩ | ⟨b, off, cap, rfl, _⟩ <;> exact ⟨_, _, rfl⟩
  have HT := Lib.hid ht
  have HIN := Lib.hid hin
  clear h ht hin
  obtain ⟨a0, c0, rfl⟩ := hs
  obtain ⟨a1, c1, rfl⟩ := hts
  have hb0 : Below w.heap.size w (w.alloc (.cells #[.int .i64 v, .slice a0 bs.length c0] 28)) := (Below.refl _ _).alloc (Nat.le_refl _) _
  have HB0 := Lib.hid hb0
  clear hb0
  go_enter Try.func84, Try.ntmps84
  go_wp2
  go_loopw [5, 11] (fun m i wr => ∃ k : Nat, k ≤ zs.length ∧ i = .int .i64 k ∧ Below w.heap.size w wr ∧ w.heap.size < wr.heap.size ∧ wr.cell? ⟨w.heap.size, 1, none⟩ = some (.slice a0 bs.length c0) ∧ Hid (MeetV wr m (preB bs zs k)) ∧ Hid (disGo [] (blksAt bs zs) = disGo (preB bs zs k) ((blksAt bs zs).drop k))) (fun _ i _ => zs.length - (intOf i).toNat)
  case atStart => exact ⟨0, Nat.zero_le _, rfl, HB0.out, by simp, by simp, Lib.hid .nil, Lib.hid rfl⟩
  case round =>
    obtain ⟨k, hk, rfl, hB, hlt, p1, HM, HE⟩ := hrel
    by_cases hkl : k < zs.length
    · rcases HT.out.2 with ⟨_, _, hq, hnil⟩ | ⟨tb, toff, tcap, hq, htb, hI⟩
      · rw [hnil] at hkl; simp at hkl
      simp at hq
      obtain ⟨rfl, rfl⟩ := hq
      have cz := (hI.below hB htb) k hkl
      have hz2 := HIN.out _ (List.getElem_mem hkl)
      have hge : zs[k] = zs[k]?.getD 0 := by simp [hkl]
      rw [hge] at hz2
      have hsu := preB_succ (bs := bs) hkl
      have hdr := drop_blksAt (bs := bs) hkl
      obtain ⟨z, hz⟩ : ∃ z, z = zs[k]?.getD 0 := ⟨_, rfl⟩
      rw [← hz] at cz hz2 hsu hdr
      clear hz hge
      obtain ⟨j, rfl⟩ : ∃ j : Nat, z = (j : Int) := ⟨z.toNat, by omega⟩
      rw [Int.toNat_natCast] at hsu hdr
      have hj : j < bs.length := by omega
      rcases HSB.out.2.2 with ⟨_, _, _, hnil⟩ | ⟨b, off, cap, hv, hblt, hbl⟩
      · rw [hnil] at hj; simp at hj
      simp at hv
      obtain ⟨rfl, rfl⟩ := hv
      obtain ⟨x, hx, ex, x1, x2, x3⟩ := blks_at (hbl.below hB hblt) hj
      rw [show bs[j]?.getD default = x by rw [ex]; rfl] at hsu hdr
      have he := HE.out
      rw [hdr, disGo_cons] at he
      have HSU := Lib.hid hsu
      have HMO := HM.out
      obtain ⟨μ, hμ⟩ : ∃ μ, μ = (preB bs zs k).any (touch x) := ⟨_, rfl⟩
      rw [← hμ] at he
      have HE2 := Lib.hid he
      have HU := Lib.hid hμ
      have i0 : (0 : Int) ≤ (k : Int) := by omega
      have i1 : (k : Int) < (zs.length : Int) := by omega
      have j0 : (0 : Int) ≤ (j : Int) := by omega
      have j1 : (j : Int) < (bs.length : Int) := by omega
      have hz := hB.size
      have hsz : w.heap.size + 1 ≤ wr.heap.size := by omega
      clear hμ he hsu hdr hx ex hbl hI HE HM
      rcases HMO.call2 with ⟨rfl, hcall⟩ | ⟨pc, pm, rfl, hcall⟩
      all_goals
        have HC := Lib.hid fun W (hb : Below wr.heap.size wr W) => hcall x W hb
        have HW := Lib.hid fun W (hb : Below wr.heap.size wr W) => with_any _ _ x W (HMO.later hb (Nat.le_refl _))
        rw [← HU.out] at HC
        obtain ⟨xa, xb, xc⟩ := x
        unfold bv at HC HW
        dsimp only at x1 x2 x3 HC HW
        clear hcall HMO HU
        cases μ with
        | true =>
          go_wp2_with fail
          refine (HC.out _ ((Below.refl _ _).alloc (Nat.le_refl _) _)).mono ?_
          rintro e w1 ⟨rfl, hb1⟩
          have hb2 := below_new hb1
          go_wp2
          go_ret
          exact ⟨by rw [HE2.out]; rfl, hB.trans (hb2.mono hz)⟩
        | false =>
          go_wp2_with fail
          refine (HC.out _ ((Below.refl _ _).alloc (Nat.le_refl _) _)).mono ?_
          rintro e w1 ⟨rfl, hb1⟩
          have hb2 := below_new hb1
          have hz1 := hb1.size
          have d0 := (hb1.cell (p := ⟨wr.heap.size, 0, none⟩) (by simp)).trans (by simp [go_sem] : _ = some (Value.int .i64 xa))
          have d1 := (hb1.cell (p := ⟨wr.heap.size, 1, none⟩) (by simp)).trans (by simp [go_sem] : _ = some (Value.int .i64 xb))
          have d2 := (hb1.cell (p := ⟨wr.heap.size, 2, none⟩) (by simp)).trans (by simp [go_sem] : _ = some (Value.int .i64 xc))
          clear hb1
          go_wp2_with fail
          refine (HW.out _ hb2).mono ?_
          rintro e w2 ⟨u, rfl, hmv, hb3⟩
          have hz3 := hb3.size
          have hbb : Below w.heap.size w w2 := (hB.trans (hb2.mono hz)).trans (hb3.mono (by have := hb2.size; omega))
          have p2 := ((hb2.trans (hb3.mono hb2.size)).cell (p := ⟨w.heap.size, 1, none⟩) hlt).trans p1
          have HMV := Lib.hid hmv
          have hlt2 : w.heap.size < w2.heap.size := by have := hb2.size; omega
          clear hmv hb3 d0 d1 d2
          go_wp2
          go_roundw
          case rel => exact ⟨k + 1, by omega, by go_num, hbb, hlt2, p2, Lib.hid (by rw [HSU.out]; exact HMV.out), Lib.hid (by rw [HE2.out, HSU.out]; rfl)⟩
          case measure => simp [intOf]; omega
    · have he := HE.out
      rw [List.drop_eq_nil_of_le (by rw [blksAt_len]; omega), disGo_nil] at he
      have HE2 := Lib.hid he
      clear he
      go_wp2
      go_ret
      exact ⟨by rw [HE2.out]; rfl, hB⟩
end Go.Proofs.Ytlkjacgpjolbdaa

namespace Go.Proofs.Ytlkjacgpjolbdaa
open Go.RowKit
def ptsB (x : Blk) : List Int := [x.a, x.b, x.c]
def allP (L : List Blk) : List Int := L.flatMap ptsB
theorem touch_iff {x y : Blk} : touch x y = true ↔ ∃ z ∈ ptsB x, z ∈ ptsB y := by
  unfold touch comP ptsB hasB
  obtain ⟨a, b, c⟩ := x
  obtain ⟨d, e, f⟩ := y
  dsimp only
  constructor
  · intro h
    split at h
    · exact ⟨a, by simp, by simp_all; omega⟩
    · split at h
      · exact ⟨b, by simp, by simp_all; omega⟩
      · split at h
        · exact ⟨c, by simp, by simp_all; omega⟩
        · simp at h
  · rintro ⟨z, hz, hy⟩
    simp only [List.mem_cons, List.not_mem_nil, or_false] at hz hy
    split
    · rfl
    · split
      · rfl
      · split
        · rfl
        · simp_all
          omega
/-- Good blocks of at most 15 points. -/
def okB (x : Blk) : Prop := 0 ≤ x.a ∧ x.a < x.b ∧ x.b < x.c ∧ x.c < 15
theorem okB_small {x : Blk} (h : okB x) : ∀ z ∈ ptsB x, 0 ≤ z ∧ z < 15 := fun z hz => by
  obtain ⟨h1, h2, h3, h4⟩ := h
  simp only [ptsB, List.mem_cons, List.not_mem_nil, or_false] at hz
  omega
theorem allP_small {L : List Blk} (h : ∀ x ∈ L, okB x) : ∀ z ∈ allP L, 0 ≤ z ∧ z < 15 := fun z hz => by
  obtain ⟨x, hx, hz⟩ := List.mem_flatMap.1 hz
  exact okB_small (h x hx) z hz
def dmk (L : List Blk) : Nat := msk (allP L)
def mkB (x : Blk) : Nat := 2 ^ x.a.toNat + 2 ^ x.b.toNat + 2 ^ x.c.toNat
theorem pow3 : ∀ a b c : Fin 15, a < b → b < c → 2 ^ a.val + 2 ^ b.val + 2 ^ c.val = 2 ^ a.val ||| 2 ^ b.val ||| 2 ^ c.val := by decide +kernel
theorem mkB_msk {x : Blk} (h : okB x) : mkB x = msk (ptsB x) := by
  obtain ⟨h1, h2, h3, h4⟩ := h
  have := pow3 ⟨x.a.toNat, by omega⟩ ⟨x.b.toNat, by omega⟩ ⟨x.c.toNat, by omega⟩ (by simp [Fin.lt_def]; omega) (by simp [Fin.lt_def]; omega)
  simpa [mkB, msk, ptsB] using this
theorem msk_lt15 {L : List Int} (h : ∀ d ∈ L, 0 ≤ d ∧ d < 15) : msk L < 32768 := by
  suffices ∀ (L : List Int) (m : Nat), m < 32768 → (∀ d ∈ L, 0 ≤ d ∧ d < 15) → L.foldl (fun m d => m ||| 2 ^ d.toNat) m < 32768 from this L 0 (by decide) h
  intro L
  induction L with
  | nil => exact fun m hm _ => hm
  | cons d L ih =>
    intro m hm hd
    rw [List.foldl_cons]
    have hq := hd d (List.mem_cons_self)
    refine ih _ ?_ fun e he => hd e (List.mem_cons_of_mem _ he)
    refine Nat.or_lt_two_pow (n := 15) hm ?_
    exact Nat.pow_lt_pow_right (by decide) (by omega)
theorem msk_mem {L : List Int} (h : ∀ d ∈ L, 0 ≤ d) {t : Nat} : (msk L).testBit t = true ↔ (t : Int) ∈ L := by
  rw [msk_test, List.any_eq_true]
  constructor
  · rintro ⟨e, he, hq⟩
    have := h e he
    simp at hq
    have : e = (t : Int) := by omega
    exact this ▸ he
  · intro ht
    exact ⟨_, ht, by simp⟩
theorem msk_append (L M : List Int) : msk (L ++ M) = msk L ||| msk M := by
  apply Nat.eq_of_testBit_eq
  intro t
  rw [Nat.testBit_or, msk_test, msk_test, msk_test, List.any_append]
theorem dmk_snoc (L : List Blk) (x : Blk) : dmk (L ++ [x]) = dmk L ||| msk (ptsB x) := by
  simp [dmk, allP, msk_append]
theorem dmk_and {L : List Blk} {x : Blk} (hL : ∀ y ∈ L, okB y) (hx : okB x) : (dmk L &&& mkB x ≠ 0) ↔ L.any (touch x) = true := by
  rw [mkB_msk hx, List.any_eq_true]
  have hs : ∀ d ∈ allP L, 0 ≤ d := fun d hd => (allP_small hL d hd).1
  have hsx : ∀ d ∈ ptsB x, 0 ≤ d := fun d hd => (okB_small hx d hd).1
  constructor
  · intro h
    obtain ⟨t, ht⟩ : ∃ t, (dmk L &&& msk (ptsB x)).testBit t = true := Nat.exists_testBit_of_ne_zero h
    rw [Nat.testBit_and, Bool.and_eq_true] at ht
    have h1 := (msk_mem hs).1 ht.1
    have h2 := (msk_mem hsx).1 ht.2
    obtain ⟨y, hy, hz⟩ := List.mem_flatMap.1 h1
    exact ⟨y, hy, touch_iff.2 ⟨_, h2, hz⟩⟩
  · rintro ⟨y, hy, ht⟩ e
    obtain ⟨z, hz, hzy⟩ := touch_iff.1 ht
    have hz0 := hsx z hz
    have h1 : (dmk L).testBit z.toNat = true := (msk_mem hs).2 (by rw [Int.toNat_of_nonneg hz0]; exact List.mem_flatMap.2 ⟨y, hy, hzy⟩)
    have h2 : (msk (ptsB x)).testBit z.toNat = true := (msk_mem hsx).2 (by rw [Int.toNat_of_nonneg hz0]; exact hz)
    have : (dmk L &&& msk (ptsB x)).testBit z.toNat = true := by rw [Nat.testBit_and, h1, h2]; rfl
    rw [e] at this
    simp at this
theorem bits15 {x y : Nat} (hx : x < 32768) (hy : y < 32768) : bits .and .i64 (x : Int) (y : Int) = ((x &&& y : Nat) : Int) ∧ bits .or .i64 (x : Int) (y : Int) = ((x ||| y : Nat) : Int) := by
  have h := bits_nat .i64 63 (by decide) (fun n h0 h1 => IntWalk.i64_in _ (by omega)) x y (by omega) (by omega)
  exact h
/-- What the model's loop does with one block more. -/
theorem dmk_step {L : List Blk} {x : Blk} (hL : ∀ y ∈ L, okB y) (hx : okB x) : (bits .and .i64 (dmk L : Int) (mkB x : Int) != 0) = L.any (touch x) ∧ bits .or .i64 (dmk L : Int) (mkB x : Int) = (dmk (L ++ [x]) : Int) := by
  have h1 : dmk L < 32768 := msk_lt15 (allP_small hL)
  have h2 : mkB x < 32768 := by rw [mkB_msk hx]; exact msk_lt15 (okB_small hx)
  obtain ⟨e1, e2⟩ := bits15 h1 h2
  refine ⟨?_, by rw [e2, dmk_snoc, mkB_msk hx]⟩
  rw [e1, Bool.eq_iff_iff, ← dmk_and hL hx]
  simp only [bne_iff_ne, ne_eq]
  omega
end Go.Proofs.Ytlkjacgpjolbdaa

namespace Go.Proofs.Ytlkjacgpjolbdaa
/-- The place of a number in a list, from k on, or -1. -/
def plGo (x : Int) : List Int → Nat → Int
  | [], _ => -1
  | z :: r, k => if z = x then (k : Int) else plGo x r (k + 1)
def place (zs : List Int) (x : Int) : Int := plGo x zs 0
theorem plGo_le (x : Int) : ∀ (l : List Int) (k : Nat), plGo x l k = -1 ∨ ((k : Int) ≤ plGo x l k ∧ plGo x l k < (k : Int) + l.length)
  | [], k => .inl rfl
  | z :: r, k => by
    unfold plGo
    split
    · right; simp; omega
    · rcases plGo_le x r (k + 1) with h | h
      · exact .inl h
      · right; simp; omega
theorem place_le (zs : List Int) (x : Int) : place zs x = -1 ∨ (0 ≤ place zs x ∧ place zs x < zs.length) := by
  have := plGo_le x zs 0
  unfold place
  omega
/-- An ascending list of points. -/
def ptGo (v : Int) : Option Int → List Int → Bool
  | _, [] => true
  | p, a :: r => inP v a && (match p with | none => true | some q => decide (q < a)) && ptGo v (some a) r
def ascGo : Option Int → List Int → Bool
  | _, [] => true
  | p, a :: r => (match p with | none => true | some q => decide (q < a)) && ascGo (some a) r
theorem ptGo_split (v : Int) : ∀ (l : List Int) (p : Option Int), ptGo v p l = (l.all (inP v) && ascGo p l)
  | [], _ => rfl
  | a :: r, p => by
    unfold ptGo ascGo
    rw [ptGo_split v r (some a), List.all_cons]
    cases inP v a <;> cases r.all (inP v) <;> simp
theorem asc_lt : ∀ {l : List Int} {p : Option Int}, ascGo p l = true → (l.Pairwise (· < ·)) ∧ ∀ q, p = some q → ∀ x ∈ l, q < x
  | [], _, _ => ⟨List.Pairwise.nil, by simp⟩
  | a :: r, p, h => by
    unfold ascGo at h
    rw [Bool.and_eq_true] at h
    obtain ⟨h1, h2⟩ := asc_lt h.2
    refine ⟨List.pairwise_cons.2 ⟨fun x hx => h2 a rfl x hx, h1⟩, ?_⟩
    rintro q rfl x hx
    have hq : q < a := by simpa using h.1
    rcases List.mem_cons.1 hx with rfl | hx
    · exact hq
    · have := h2 a rfl x hx; omega
theorem plGo_mono {x y : Int} (hxy : x < y) : ∀ {l : List Int} {k : Nat}, l.Pairwise (· < ·) → 0 ≤ plGo x l k → 0 ≤ plGo y l k → plGo x l k < plGo y l k
  | [], k, _, h, _ => by simp [plGo] at h
  | z :: r, k, hp, hx, hy => by
    rw [List.pairwise_cons] at hp
    unfold plGo at hx hy ⊢
    by_cases h1 : z = x
    · rw [if_pos h1] at hx ⊢
      rw [if_neg (by omega)] at hy ⊢
      have := plGo_le y r (k + 1)
      omega
    · rw [if_neg h1] at hx ⊢
      by_cases h2 : z = y
      · exfalso
        -- x is behind z, so greater
        have hx' : ∃ u ∈ r, u = x := by
          clear hy hp
          induction r generalizing k with
          | nil => simp [plGo] at hx
          | cons u r ih =>
            unfold plGo at hx
            split at hx
            · exact ⟨u, by simp, ‹_›⟩
            · obtain ⟨q, hq, e⟩ := ih (k := k + 1) hx
              exact ⟨q, by simp [hq], e⟩
        obtain ⟨u, hu, rfl⟩ := hx'
        have := hp.1 u hu
        omega
      · rw [if_neg h2] at hy ⊢
        exact plGo_mono hxy hp.2 hx hy
/-- The block's place on the points, if it is there. -/
def onB (pts : List Int) (x : Blk) : Option Blk :=
  if 0 ≤ place pts x.a ∧ 0 ≤ place pts x.b ∧ 0 ≤ place pts x.c then some ⟨place pts x.a, place pts x.b, place pts x.c⟩ else none
def onF (v : Int) (bs : List Blk) (pts : List Int) : Int × List Blk × Int :=
  if isSysImpl v bs then (if decide (3 ≤ pts.length) && ptGo v none pts then ((pts.length : Int), bs.filterMap (onB pts), 0) else (0, [], 2)) else (0, [], 1)
theorem onB_bef {pts : List Int} (hp : pts.Pairwise (· < ·)) {x y x' y' : Blk} (hx : onB pts x = some x') (hy : onB pts y = some y') (h : befB x y = true) : befB x' y' = true := by
  unfold onB at hx hy
  split at hx
  · split at hy
    · rename_i h1 h2
      cases hx; cases hy
      rw [bef_iff] at h ⊢
      dsimp only
      rcases h with h | ⟨h, h' | ⟨h', h''⟩⟩
      · exact .inl (plGo_mono h hp h1.1 h2.1)
      · exact .inr ⟨by rw [h], .inl (plGo_mono h' hp h1.2.1 h2.2.1)⟩
      · exact .inr ⟨by rw [h], .inr ⟨by rw [h'], plGo_mono h'' hp h1.2.2 h2.2.2⟩⟩
    · cases hy
  · cases hx
theorem onL_strict {pts : List Int} (hp : pts.Pairwise (· < ·)) : ∀ {bs : List Blk}, (bs.Pairwise fun x y => befB x y = true) → (bs.filterMap (onB pts)).Pairwise fun x y => befB x y = true
  | [], _ => List.Pairwise.nil
  | b :: r, h => by
    rw [List.pairwise_cons] at h
    rw [List.filterMap_cons]
    split
    · exact onL_strict hp h.2
    · rename_i b' hb
      refine List.pairwise_cons.2 ⟨fun y' hy' => ?_, onL_strict hp h.2⟩
      obtain ⟨y, hy, e⟩ := List.mem_filterMap.1 hy'
      exact onB_bef hp hb e (h.1 y hy)
theorem onL_sorted {v : Int} {bs : List Blk} {pts : List Int} (hi : isSysImpl v bs = true) (hp : ptGo v none pts = true) : sortB (bs.filterMap (onB pts)) = bs.filterMap (onB pts) := by
  rw [ptGo_split, Bool.and_eq_true] at hp
  exact sortB_eq (strict_srt (onL_strict (asc_lt hp.2).1 (sys_strict hi))) (List.Perm.refl _)
theorem onB_in {pts : List Int} {x y : Blk} (h : onB pts x = some y) : (0 ≤ y.a ∧ y.a < pts.length) ∧ (0 ≤ y.b ∧ y.b < pts.length) ∧ (0 ≤ y.c ∧ y.c < pts.length) := by
  unfold onB at h
  split at h
  · cases h
    have h1 := place_le pts x.a
    have h2 := place_le pts x.b
    have h3 := place_le pts x.c
    dsimp only
    omega
  · cases h
theorem filterMap_take {pts : List Int} {bs : List Blk} {k : Nat} (hk : k < bs.length) {x : Blk} (hx : bs[k]? = some x) : (bs.take (k + 1)).filterMap (onB pts) = (bs.take k).filterMap (onB pts) ++ (onB pts x).toList := by
  have e : bs[k] = x := by rw [List.getElem?_eq_getElem hk] at hx; simpa using hx
  rw [List.take_succ_eq_append_getElem hk, List.filterMap_append, e]
  congr 1
theorem onF_len (v : Int) (bs : List Blk) (pts : List Int) : (onF v bs pts).2.1.length ≤ bs.length := by
  unfold onF
  split
  · split
    · exact List.length_filterMap_le _ _
    · simp
  · simp
end Go.Proofs.Ytlkjacgpjolbdaa

namespace Go.Proofs.Ytlkjacgpjolbdaa
open Go.RowKit Go.Maps
/-- The row at the head of block g holds just these integers and may be written. -/
structure OwnAtI (w : World) (g : Nat) (zs : List Int) : Prop where
  lt : g < w.heap.size
  at_ : Ints w g 0 zs
  free : ∀ o, w.frozen? ⟨g, o, none⟩ = false
theorem OwnAtI.kept {w w' : World} {g : Nat} {zs : List Int} {row : Option Nat} (h : OwnAtI w g zs) (hg : w.grownBy w' row) (hne : some g ≠ row) : OwnAtI w' g zs := by
  have hb := hg.block g h.lt hne
  exact ⟨Nat.lt_of_lt_of_le h.lt hg.size, fun k hk => (World.cell?_of_block (w := w) (a := ⟨g, _, none⟩) hb).trans (h.at_ k hk), fun o => (World.frozen?_of_block (w := w) (a := ⟨g, o, none⟩) hb).trans (h.free o)⟩
theorem Ints.set {w : World} {g : Nat} {l : List Int} (h : Ints w g 0 l) {i : Nat} (hi : i < l.length) (x : Int) : Ints (w.setCell ⟨g, i, none⟩ (.int .i64 x)) g 0 (l.set i x) := by
  intro k hk
  rw [List.length_set] at hk
  have hk' := h k hk
  have hi' := h i hi
  rw [Nat.zero_add] at hk' hi' ⊢
  by_cases e : k = i
  · subst e
    rw [World.cell?_setCell_same' _ _ _ (by rw [hi']; rfl)]
    simp [hk]
  · rw [World.cell?_setCell_other _ _ _ _ (by simp <;> omega), hk', List.getElem?_set_ne (Ne.symm e)]
def markI (k : Int) (n : Nat) : List Int := (List.range n).map fun (t : Nat) => k + (t : Int)
theorem markI_length (k : Int) (n : Nat) : (markI k n).length = n := by simp [markI]
theorem markI_next {k : Int} {i : Nat} {zs : List Int} (h : i < zs.length) : (markI k i ++ zs.drop i).set i (k + i) = markI k (i + 1) ++ zs.drop (i + 1) := by
  rw [List.drop_eq_getElem_cons h, List.set_append_right _ _ (by rw [markI_length]; omega), markI_length, Nat.sub_self, List.set_cons_zero]
  simp [markI, List.range_succ]
theorem markI_at {k : Int} {n j : Nat} (h : j < n) : (markI k n)[j]?.getD 0 = k + j := by
  simp [markI, h]
set_option maxRecDepth 100000 in
theorem markInt64S_nil (a : Option Addr) (c : Nat) (k : Int) (w : World) : Calls Try.prog 30 #[.slice a 0 c, .int .i64 k] w (RS (.int .i64 k) w) := by
  go_enter Try.func30, Try.ntmps30
  go_wp2
  refine wp_loop_rounds 1 ?_
  rw [rounds_succ]
  go_wp2
  go_ret
  exact RS_of rfl
set_option maxRecDepth 100000 in
theorem heldInt64S_nil (a : Option Addr) (c : Nat) (k : Int) (w : World) : Calls Try.prog 37 #[.slice a 0 c, .int .i64 k] w (RS (.int .i64 k) w) := by
  go_enter Try.func37, Try.ntmps37
  go_wp2
  refine wp_loop_rounds 1 ?_
  rw [rounds_succ]
  go_wp2
  go_ret
  exact RS_of rfl
set_option maxRecDepth 100000 in
theorem markInt64S_any (g cap : Nat) (zs : List Int) (k : Int) (w : World) (h : OwnAtI w g zs) (hl : zs.length ≤ 1100000) (h0 : 0 ≤ k) (h1 : k ≤ 9000000) :
    Calls Try.prog 30 #[.slice (some ⟨g, 0, none⟩) zs.length cap, .int .i64 k] w (fun e w' => e = .returned (.int .i64 (k + zs.length)) ∧ w.grownBy w' (some g) ∧ OwnAtI w' g (markI k zs.length)) := by
  have H := Lib.hid h
  clear h
  go_enter Try.func30, Try.ntmps30
  go_wp2
  go_loopw [1, 5] (fun t i wr => ∃ j : Nat, j ≤ zs.length ∧ i = .int .i64 j ∧ t = .int .i64 (k + j) ∧ w.grownBy wr (some g) ∧ OwnAtI wr g (markI k j ++ zs.drop j)) (fun _ i _ => zs.length - (intOf i).toNat)
  case atStart => exact ⟨0, Nat.zero_le _, rfl, by simp, only_refl _ _, by simpa [markI] using H.out⟩
  case round =>
    obtain ⟨j, hj, rfl, rfl, hg, ho⟩ := hrel
    by_cases hjl : j < zs.length
    · have hlj : j < (markI k j ++ zs.drop j).length := by simp [markI_length]; omega
      have c1 := ho.at_ j hlj
      rw [Nat.zero_add] at c1
      have f1 := ho.free
      have hs := Ints.set ho.at_ hlj (k + j)
      rw [markI_next hjl] at hs
      have HS := Lib.hid hs
      have hlt := ho.lt
      clear hs ho
      have g0 : (0 : Int) ≤ (j : Int) := by omega
      have g1 : (j : Int) < (zs.length : Int) := by omega
      obtain ⟨m, hm⟩ : ∃ m, m = k + (j : Int) := ⟨_, rfl⟩
      rw [← hm] at HS ⊢
      have m0 : 0 ≤ m := by omega
      have m1 : m ≤ 90000000 := by omega
      have HM := Lib.hid hm
      clear hm
      go_wp2
      go_roundw
      case rel => exact ⟨j + 1, by omega, by go_num, int_eq (by rw [HM.out]; omega), only_setCell hg rfl _, ⟨by simpa [World.setCell] using hlt, HS.out, fun o => by rw [World.frozen?_setCell]; exact f1 o⟩⟩
      case measure => simp [intOf]; omega
    · go_wp2
      go_ret
      have e : j = zs.length := by omega
      subst e
      rw [List.drop_length, List.append_nil] at ho
      exact ⟨rfl, hg, ho⟩
set_option maxRecDepth 100000 in
theorem heldInt64S_any (g cap n : Nat) (k : Int) (w : World) (h : Ints w g 0 (markI k n)) (hl : n ≤ 1100000) (h0 : 0 ≤ k) (h1 : k ≤ 9000000) :
    Calls Try.prog 37 #[.slice (some ⟨g, 0, none⟩) n cap, .int .i64 k] w (RS (.int .i64 (k + n)) w) := by
  have H := Lib.hid h
  clear h
  go_enter Try.func37, Try.ntmps37
  go_wp2
  go_loop [1, 5] (fun t i => ∃ j : Nat, j ≤ n ∧ i = .int .i64 j ∧ t = .int .i64 (k + j)) (fun _ i => n - (intOf i).toNat)
  case atStart => exact ⟨0, Nat.zero_le _, rfl, by simp⟩
  case round =>
    obtain ⟨j, hj, rfl, rfl⟩ := hrel
    by_cases hjl : j < n
    · have hc := H.out j (by rw [markI_length]; exact hjl)
      rw [markI_at hjl, Nat.zero_add] at hc
      obtain ⟨m, hm⟩ : ∃ m, m = k + (j : Int) := ⟨_, rfl⟩
      rw [← hm] at hc ⊢
      have m0 : 0 ≤ m := by omega
      have m1 : m ≤ 90000000 := by omega
      have HM := Lib.hid hm
      clear hm
      have g0 : (0 : Int) ≤ (j : Int) := by omega
      have g1 : (j : Int) < (n : Int) := by omega
      have n1 : (m != m) = false := by simp
      go_wp2
      go_round
      case rel => exact ⟨j + 1, by omega, by go_num, int_eq (by rw [HM.out]; omega)⟩
      case measure => simp [intOf]; omega
    · go_wp2
      go_ret
      have e : j = n := by omega
      subst e
      exact RS_of rfl
/-- A result that is a list of integers: empty anywhere, or memory of its own between lo and hi. -/
def ResI (w : World) (lo hi : Nat) (s : Value) (zs : List Int) : Prop := (zs = [] ∧ ∃ a c, s = .slice a 0 c) ∨ ∃ g cap, s = .slice (some ⟨g, 0, none⟩) zs.length cap ∧ lo ≤ g ∧ g < hi ∧ OwnAtI w g zs
theorem OwnJ.res {w : World} {base : Nat} {v : Value} {zs : List Int} (h : OwnJ w base v zs) (hl : zs.length ≤ 1100000) : ResI w base w.heap.size v zs := by
  have hib := h.ib hl
  obtain ⟨hl, h | ⟨g, cap, cur, rfl, hb, hcur, hn, hc, hsz, hx⟩⟩ := h
  · obtain ⟨rfl, h0⟩ := h
    exact .inl ⟨List.length_eq_zero_iff.1 h0, _, _, rfl⟩
  · have hg : g < w.heap.size := (Array.getElem?_eq_some_iff.1 hcur).1
    rcases hib.2 with ⟨a, c, e1, rfl⟩ | ⟨b, off, cap', e1, _, hI⟩
    · exact .inl ⟨rfl, _, _, rfl⟩
    · simp at e1
      obtain ⟨⟨rfl, rfl⟩, _⟩ := e1
      exact .inr ⟨g, cap, rfl, hb, hg, hg, hI, fun o => by simp [World.frozen?, hcur]⟩
theorem ResI.ib {w : World} {lo hi : Nat} {s : Value} {zs : List Int} (h : ResI w lo hi s zs) (hl : zs.length ≤ 1100000) : IB w s zs := by
  rcases h with ⟨rfl, a, c, rfl⟩ | ⟨g, cap, rfl, _, _, ho⟩
  · exact ⟨hl, .inl ⟨a, c, rfl, rfl⟩⟩
  · exact ⟨hl, .inr ⟨g, 0, cap, rfl, ho.lt, ho.at_⟩⟩
theorem ResI.kept {w w' : World} {lo hi : Nat} {s : Value} {zs : List Int} {row : Option Nat} (h : ResI w lo hi s zs) (hg : w.grownBy w' row) (hr : ∀ r, row = some r → r < lo ∨ hi ≤ r) : ResI w' lo hi s zs := by
  rcases h with h | ⟨g, cap, rfl, h1, h2, ho⟩
  · exact .inl h
  · exact .inr ⟨g, cap, rfl, h1, h2, ho.kept hg (fun e => by have := hr g e.symm; omega)⟩
theorem ResI.below {w w' : World} {lo hi : Nat} {s : Value} {zs : List Int} (h : ResI w lo hi s zs) {B : Nat} (hb : Below B w w') (hB : w.heap.size ≤ B) : ResI w' lo hi s zs :=
  h.kept (only_of_below (hb.mono hB) none) (by simp)
theorem markJ (lo hi : Nat) (s : Value) (zs : List Int) (k : Int) (w : World) (h : ResI w lo hi s zs) (hl : zs.length ≤ 1100000) (h0 : 0 ≤ k) (h1 : k ≤ 9000000) :
    Calls Try.prog 30 #[s, .int .i64 k] w (fun e w' => e = .returned (.int .i64 (k + zs.length)) ∧ (∃ row, w.grownBy w' row ∧ ∀ r, row = some r → lo ≤ r ∧ r < hi) ∧ ResI w' lo hi s (markI k zs.length)) := by
  rcases h with ⟨rfl, a, c, rfl⟩ | ⟨g, cap, rfl, h3, h4, ho⟩
  · refine (markInt64S_nil a c k w).mono ?_
    rintro e w' ⟨rfl, rfl⟩
    exact ⟨by simp, ⟨none, only_refl _ _, by simp⟩, .inl ⟨rfl, a, c, rfl⟩⟩
  · refine (markInt64S_any g cap zs k w ho hl h0 h1).mono ?_
    rintro e w' ⟨rfl, hg, ho'⟩
    exact ⟨rfl, ⟨some g, hg, fun r hr => by cases hr; exact ⟨h3, h4⟩⟩, .inr ⟨g, cap, by rw [markI_length], h3, h4, ho'⟩⟩
theorem heldJ (lo hi : Nat) (s : Value) (n : Nat) (k : Int) (w : World) (h : ResI w lo hi s (markI k n)) (hl : n ≤ 1100000) (h0 : 0 ≤ k) (h1 : k ≤ 9000000) :
    Calls Try.prog 37 #[s, .int .i64 k] w (RS (.int .i64 (k + n)) w) := by
  rcases h with ⟨hn, a, c, rfl⟩ | ⟨g, cap, rfl, h3, h4, ho⟩
  · have : n = 0 := by have := congrArg List.length hn; simpa [markI_length] using this
    subst this
    simpa using heldInt64S_nil a c k w
  · rw [markI_length]
    exact heldInt64S_any g cap n k w ho.at_ hl h0 h1
end Go.Proofs.Ytlkjacgpjolbdaa

namespace Go.Proofs.Ytlkjacgpjolbdaa
open Go.RowKit Go.Maps
/-- The value is a slice of just these n rows. -/
def SSB (w : World) (s : Value) (n : Nat) (F : Nat → List Int) : Prop :=
  n ≤ 1100000 ∧ ((n = 0 ∧ ∃ a c, s = .slice a 0 c) ∨ ∃ b off cap, s = .slice (some ⟨b, off, none⟩) n cap ∧ b < w.heap.size ∧ ∀ k, k < n → ∃ a c, w.cell? ⟨b, off + k, none⟩ = some (.slice a (F k).length c) ∧ IB w (.slice a (F k).length c) (F k))
theorem SSB.below {w w' : World} {s : Value} {n : Nat} {F : Nat → List Int} (h : SSB w s n F) {B : Nat} (hb : Below B w w') (hB : w.heap.size ≤ B) : SSB w' s n F := by
  obtain ⟨h1, h2⟩ := h
  refine ⟨h1, ?_⟩
  rcases h2 with h2 | ⟨b, off, cap, rfl, hl, hr⟩
  · exact .inl h2
  · refine .inr ⟨b, off, cap, rfl, by have := hb.size; omega, fun k hk => ?_⟩
    obtain ⟨a, c, hc, hi⟩ := hr k hk
    exact ⟨a, c, (hb.cell (by simp; omega)).trans hc, hi.below hb hB⟩
theorem SSB.slice {w : World} {s : Value} {n : Nat} {F : Nat → List Int} (h : SSB w s n F) : ∃ a c, s = .slice a n c := by
  rcases h.2 with ⟨rfl, a, c, rfl⟩ | ⟨b, off, cap, rfl, _⟩ <;> exact ⟨_, _, rfl⟩
set_option maxRecDepth 100000 in
theorem eqInt64SS_same (s t : Value) (n : Nat) (F : Nat → List Int) (w : World) (h : SSB w s n F) (k : SSB w t n F) : Calls Try.prog 42 #[s, t] w (RV (.bool true) w) := by
  have hn := h.1
  by_cases h0 : n = 0
  · obtain ⟨a, c, rfl⟩ := h.slice
    obtain ⟨a', c', rfl⟩ := k.slice
    subst h0
    clear h k hn
    go_enter Try.func42, Try.ntmps42
    go_wp2
    refine wp_loop_rounds 1 ?_
    rw [rounds_succ]
    go_wp2
    go_ret
    exact RV_of rfl (Below.refl _ _)
  · rcases h.2 with ⟨e, _⟩ | ⟨b, off, cap, rfl, hb, hB⟩
    · exact absurd e h0
    · rcases k.2 with ⟨e, _⟩ | ⟨b', off', cap', rfl, hb', hB'⟩
      · exact absurd e h0
      · have HB := Lib.hid hB
        have HB' := Lib.hid hB'
        clear hB hB' h k h0
        have hne : (((n : Nat) : Int) != (n : Nat)) = false := by simp
        go_enter Try.func42, Try.ntmps42
        go_wp2
        go_loopw [5] (fun i wr => ∃ k : Nat, k ≤ n ∧ i = .int .i64 k ∧ Below w.heap.size w wr) (fun i _ => n - (intOf i).toNat)
        case atStart => exact ⟨0, Nat.zero_le _, rfl, Below.refl _ _⟩
        case round =>
          obtain ⟨k, hk, rfl, hBw⟩ := hrel
          by_cases hkl : k < n
          · obtain ⟨a1, c1, q1, i1⟩ := HB.out k hkl
            obtain ⟨a2, c2, q2, i2⟩ := HB'.out k hkl
            have q1 := (hBw.cell (p := ⟨b, off + k, none⟩) hb).trans q1
            have q2 := (hBw.cell (p := ⟨b', off' + k, none⟩) hb').trans q2
            have I1 := Lib.hid (i1.below hBw (Nat.le_refl _))
            have I2 := Lib.hid (i2.below hBw (Nat.le_refl _))
            clear i1 i2
            have g0 : (0 : Int) ≤ (k : Int) := by omega
            have g1 : (k : Int) < (n : Int) := by omega
            go_wp2_with fail
            go_region_with (go_at_call 29; refine (eqInt64S_same _ _ (F k) _ (I1.out.below ((Below.refl _ _).drew) (Nat.le_refl _)) (I2.out.below ((Below.refl _ _).drew) (Nat.le_refl _))).mono ?_; rintro e w1 ⟨rfl, hb1⟩)
            all_goals
              go_wp2_with fail
              go_roundw
              case rel => exact ⟨k + 1, by omega, by go_num, (hBw.drew).trans (hb1.mono (by have := hBw.size; simp; omega))⟩
              case measure => simp [intOf]; omega
          · go_wp2
            go_ret
            exact RV_of rfl hBw
/-- Rows of its own: the head at block G, the k-th row at block gs k. -/
structure SSR (w : World) (lo G : Nat) (gs caps : Nat → Nat) (n : Nat) (F : Nat → List Int) : Prop where
  cell : ∀ k, k < n → w.cell? ⟨G, k, none⟩ = some (.slice (some ⟨gs k, 0, none⟩) (F k).length (caps k))
  row : ∀ k, k < n → OwnAtI w (gs k) (F k)
  ne : ∀ k, k < n → gs k ≠ G
  inc : ∀ j k, j < k → k < n → gs j ≠ gs k
  low : ∀ k, k < n → lo ≤ gs k
  lt : G < w.heap.size
theorem SSR.kept {w w' : World} {lo G : Nat} {gs caps : Nat → Nat} {n : Nat} {F : Nat → List Int} (h : SSR w lo G gs caps n F) {row : Option Nat} (hg : w.grownBy w' row) (hG : some G ≠ row) (hr : ∀ k, k < n → some (gs k) ≠ row) : SSR w' lo G gs caps n F :=
  ⟨fun k hk => hg.cell (h.cell k hk) (by simpa using hG), fun k hk => (h.row k hk).kept hg (hr k hk), h.ne, h.inc, h.low, Nat.lt_of_lt_of_le h.lt hg.size⟩
theorem SSR.below {w w' : World} {lo G : Nat} {gs caps : Nat → Nat} {n : Nat} {F : Nat → List Int} (h : SSR w lo G gs caps n F) {B : Nat} (hb : Below B w w') (hB : w.heap.size ≤ B) : SSR w' lo G gs caps n F :=
  h.kept (only_of_below (hb.mono hB) none) (by simp) (by simp)
theorem SSR.sb {w : World} {lo G cap : Nat} {gs caps : Nat → Nat} {n : Nat} {F : Nat → List Int} (h : SSR w lo G gs caps n F) (hn : n ≤ 1100000) (hF : ∀ k, k < n → (F k).length ≤ 1100000) : SSB w (.slice (some ⟨G, 0, none⟩) n cap) n F :=
  ⟨hn, .inr ⟨G, 0, cap, rfl, h.lt, fun k hk => ⟨_, _, by rw [Nat.zero_add]; exact h.cell k hk, ⟨hF k hk, .inr ⟨gs k, 0, caps k, rfl, (h.row k hk).lt, (h.row k hk).at_⟩⟩⟩⟩⟩
/-- How many integers the first k rows hold. -/
def tot (F : Nat → List Int) : Nat → Nat
  | 0 => 0
  | k + 1 => tot F k + (F k).length
theorem tot_le (F : Nat → List Int) {j n : Nat} (h : j ≤ n) : tot F j ≤ tot F n := by
  induction h with
  | refl => exact Nat.le_refl _
  | step _ ih => exact Nat.le_trans ih (by simp [tot])
/-- The rows after marking. -/
def markSS (k0 : Int) (F : Nat → List Int) (j : Nat) : List Int := markI (k0 + tot F j) (F j).length
theorem SSR.mark1 {w w' : World} {lo G : Nat} {gs caps : Nat → Nat} {n : Nat} {F : Nat → List Int} (h : SSR w lo G gs caps n F) {j : Nat} (hj : j < n) (L : List Int) (hL : L.length = (F j).length) (hg : w.grownBy w' (some (gs j))) (ho : OwnAtI w' (gs j) L) :
    SSR w' lo G gs caps n (fun k => if k = j then L else F k) := by
  refine ⟨fun k hk => ?_, fun k hk => ?_, h.ne, h.inc, h.low, Nat.lt_of_lt_of_le h.lt hg.size⟩
  · have hc := hg.cell (h.cell k hk) (by simpa using Ne.symm (h.ne j hj))
    split
    · subst k
      rw [hL]; exact hc
    · exact hc
  · split
    · subst k; exact ho
    · refine (h.row k hk).kept hg (fun e => ?_)
      have e : gs k = gs j := by simpa using e
      rcases Nat.lt_trichotomy k j with hlt | rfl | hlt
      · have := h.inc k j hlt hj; omega
      · contradiction
      · have := h.inc j k hlt hk; omega
def partSS (k0 : Int) (F : Nat → List Int) (j : Nat) : Nat → List Int := fun k => if k < j then markSS k0 F k else F k
theorem partSS_len (k0 : Int) (F : Nat → List Int) (j k : Nat) : (partSS k0 F j k).length = (F k).length := by
  unfold partSS markSS
  split
  · rw [markI_length]
  · rfl
theorem partSS_succ (k0 : Int) (F : Nat → List Int) (j : Nat) : (fun k => if k = j then markSS k0 F j else partSS k0 F j k) = partSS k0 F (j + 1) := by
  funext k
  unfold partSS
  by_cases h : k = j
  · subst h; simp
  · rw [if_neg h]
    by_cases h2 : k < j
    · rw [if_pos h2, if_pos (by omega)]
    · rw [if_neg h2, if_neg (by omega)]
theorem SSR.congr {w : World} {lo G : Nat} {gs caps : Nat → Nat} {n : Nat} {F F' : Nat → List Int} (h : SSR w lo G gs caps n F) (e : ∀ k, k < n → F k = F' k) : SSR w lo G gs caps n F' :=
  ⟨fun k hk => by rw [← e k hk]; exact h.cell k hk, fun k hk => by rw [← e k hk]; exact h.row k hk, h.ne, h.inc, h.low, h.lt⟩
set_option maxRecDepth 100000 in
theorem markInt64SS_any (lo G cap : Nat) (gs caps : Nat → Nat) (n : Nat) (F : Nat → List Int) (k0 : Int) (w : World) (h : SSR w lo G gs caps n F) (hl : n ≤ 1100000) (hlo : lo ≤ w.heap.size) (hT : tot F n ≤ 1100000) (h0 : 0 ≤ k0) (h1 : k0 ≤ 5000000) :
    Calls Try.prog 53 #[.slice (some ⟨G, 0, none⟩) n cap, .int .i64 k0] w (fun e w' => e = .returned (.int .i64 (k0 + tot F n)) ∧ Below lo w w' ∧ SSR w' lo G gs caps n (markSS k0 F)) := by
  have H := Lib.hid h
  clear h
  go_enter Try.func53, Try.ntmps53
  go_wp2
  go_loopw [1, 5] (fun t i wr => ∃ j : Nat, j ≤ n ∧ i = .int .i64 j ∧ t = .int .i64 (k0 + tot F j) ∧ Below lo w wr ∧ SSR wr lo G gs caps n (partSS k0 F j)) (fun _ i _ => n - (intOf i).toNat)
  case atStart => exact ⟨0, Nat.zero_le _, rfl, by simp [tot], Below.refl _ _, H.out.congr (fun k _ => by simp [partSS])⟩
  case round =>
    obtain ⟨j, hj, rfl, rfl, hB, hS⟩ := hrel
    have hSz := hB.size
    by_cases hjl : j < n
    · have c1 := hS.cell j hjl
      have hrow := hS.row j hjl
      have hlow := hS.low j hjl
      have hlen := partSS_len k0 F j j
      have hFj : partSS k0 F j j = F j := by simp [partSS]
      rw [hFj] at c1 hrow
      have htj : tot F (j + 1) ≤ tot F n := tot_le F hjl
      have htj' : tot F (j + 1) = tot F j + (F j).length := rfl
      have HS := Lib.hid hS
      have HM := Lib.hid (markInt64S_any (gs j) (caps j) (F j) (k0 + tot F j) wr hrow (by omega) (by omega) (by omega))
      clear hlen hFj hrow hS
      have g0 : (0 : Int) ≤ (j : Int) := by omega
      have g1 : (j : Int) < (n : Int) := by omega
      go_wp2_with (go_at_call 30; refine HM.out.mono ?_; rintro e w1 ⟨rfl, hg1, ho1⟩)
      go_roundw
      case rel => exact ⟨j + 1, by omega, by go_num, int_eq (by rw [htj']; omega), hB.grown hg1 (by omega) (fun r e => by simp at e; omega), by
        have := HS.out.mark1 hjl (markSS k0 F j) (by unfold markSS; rw [markI_length, partSS_len]) hg1 ho1
        rw [partSS_succ] at this
        exact this⟩
      case measure => simp [intOf]; omega
    · go_wp2
      go_ret
      have e : j = n := by omega
      subst e
      exact ⟨rfl, hB, hS.congr (fun k hk => by simp [partSS, hk])⟩
set_option maxRecDepth 100000 in
theorem heldInt64SS_any (lo G cap : Nat) (gs caps : Nat → Nat) (n : Nat) (F : Nat → List Int) (k0 : Int) (w : World) (h : SSR w lo G gs caps n (markSS k0 F)) (hl : n ≤ 1100000) (hT : tot F n ≤ 1100000) (h0 : 0 ≤ k0) (h1 : k0 ≤ 5000000) :
    Calls Try.prog 54 #[.slice (some ⟨G, 0, none⟩) n cap, .int .i64 k0] w (RS (.int .i64 (k0 + tot F n)) w) := by
  have H := Lib.hid h
  clear h
  go_enter Try.func54, Try.ntmps54
  go_wp2
  go_loop [1, 5] (fun t i => ∃ j : Nat, j ≤ n ∧ i = .int .i64 j ∧ t = .int .i64 (k0 + tot F j)) (fun _ i => n - (intOf i).toNat)
  case atStart => exact ⟨0, Nat.zero_le _, rfl, by simp [tot]⟩
  case round =>
    obtain ⟨j, hj, rfl, rfl⟩ := hrel
    by_cases hjl : j < n
    · have c1 := H.out.cell j hjl
      have hrow := (H.out.row j hjl).at_
      have htj : tot F (j + 1) ≤ tot F n := tot_le F hjl
      have htj' : tot F (j + 1) = tot F j + (F j).length := rfl
      have hmm : (markSS k0 F j).length = (F j).length := by unfold markSS; rw [markI_length]
      rw [hmm] at c1
      have HM := Lib.hid (heldInt64S_any (gs j) (caps j) (F j).length (k0 + tot F j) w hrow (by omega) (by omega) (by omega))
      clear hmm hrow
      obtain ⟨m, hm⟩ : ∃ m, m = k0 + (tot F j : Int) + ((F j).length : Int) := ⟨_, rfl⟩
      rw [← hm] at HM
      have hm0 : 0 ≤ m := by omega
      have HME := Lib.hid hm
      clear hm
      have g0 : (0 : Int) ≤ (j : Int) := by omega
      have g1 : (j : Int) < (n : Int) := by omega
      go_wp2_with (go_at_call 37; refine HM.out.mono ?_; rintro e w1 ⟨rfl, rfl⟩)
      go_round
      case rel => exact ⟨j + 1, by omega, by go_num, int_eq (by rw [htj', HME.out]; omega)⟩
      case measure => simp [intOf]; omega
    · go_wp2
      go_ret
      have e : j = n := by omega
      subst e
      exact RS_of rfl
end Go.Proofs.Ytlkjacgpjolbdaa

namespace Go.Proofs.Ytlkjacgpjolbdaa
open Go.RowKit Go.Maps
def famF (v : Int) (n : Nat) (F : Nat → List Int) : Bool × Int := if dfV v = true then (famB v n F, 0) else (false, 2)
def okP1 (v : Int) (k : Nat) (F : Nat → List Int) : Bool := triB v (F k) && (decide (k = 0) || decide (cmpL (F (k - 1)) (F k) < 0))
theorem okP_succ (v : Int) (k : Nat) (F : Nat → List Int) : okP v (k + 1) F = (okP v k F && okP1 v k F) := by
  unfold okP okP1
  simp [List.range_succ, List.all_append]
theorem okP_false {v : Int} {k n : Nat} {F : Nat → List Int} (hk : k < n) (h : okP1 v k F = false) : okP v n F = false := by
  unfold okP
  rw [List.all_eq_false]
  exact ⟨k, List.mem_range.2 hk, by unfold okP1 at h; simp only [h]; decide⟩
theorem okP_tri {v : Int} {k n : Nat} {F : Nat → List Int} (hk : k < n) (h : okP v n F = true) : triB v (F k) = true := by
  unfold okP at h
  have := List.all_eq_true.1 h k (List.mem_range.2 hk)
  simp only [Bool.and_eq_true] at this
  exact this.1
theorem tri_len {v : Int} {t : List Int} (h : triB v t = true) : t.length = 3 := by
  obtain ⟨a, b, c, rfl, _⟩ := triB_iff.1 h
  rfl
theorem SSB.rows {w : World} {a : Option Addr} {c n : Nat} {F : Nat → List Int} (h : SSB w (.slice a n c) n F) : ∀ k, k < n → ∃ b off a' c', a = some ⟨b, off, none⟩ ∧ b < w.heap.size ∧ w.cell? ⟨b, off + k, none⟩ = some (.slice a' (F k).length c') ∧ IB w (.slice a' (F k).length c') (F k) := fun k hk => by
  rcases h.2 with ⟨h0, _⟩ | ⟨b, off, cap, e, hlt, hr⟩
  · omega
  · simp at e
    obtain ⟨rfl, rfl⟩ := e
    obtain ⟨a', c', hc, hi⟩ := hr k hk
    exact ⟨b, off, a', c', rfl, hlt, hc, hi⟩
theorem IB.three {w : World} {a : Option Addr} {n c : Nat} {t : List Int} (h : IB w (.slice a n c) t) (h3 : t.length = 3) : ∃ b off, a = some ⟨b, off, none⟩ ∧ n = 3 ∧ b < w.heap.size ∧ Ints w b off t := by
  rcases h.2 with ⟨_, _, _, rfl⟩ | ⟨b, off, cap, e, hlt, hr⟩
  · simp at h3
  · simp at e
    obtain ⟨rfl, rfl, rfl⟩ := e
    exact ⟨b, off, rfl, h3, hlt, hr⟩
theorem diffs_ne {v : Int} (hv : dfV v = true) : diffs v ≠ [] ∧ (diffs v).length ≤ 7 := by
  simp only [dfV, Bool.or_eq_true, decide_eq_true_eq] at hv
  rcases hv with (rfl | rfl) | rfl <;> decide
end Go.Proofs.Ytlkjacgpjolbdaa

namespace Go.Proofs.Ytlkjacgpjolbdaa
open Go.RowKit Go.Maps
theorem IB.pos {w : World} {a : Option Addr} {n c : Nat} {t : List Int} (h : IB w (.slice a n c) t) (h3 : 0 < t.length) : ∃ b off, a = some ⟨b, off, none⟩ ∧ n = t.length ∧ b < w.heap.size ∧ Ints w b off t := by
  rcases h.2 with ⟨_, _, _, rfl⟩ | ⟨b, off, cap, e, hlt, hr⟩
  · simp at h3
  · simp at e
    obtain ⟨rfl, rfl, rfl⟩ := e
    exact ⟨b, off, rfl, rfl, hlt, hr⟩
theorem wrap_pow0 {t : Int} (h1 : 0 ≤ t) (h7 : t ≤ 7) : IntKind.i64.wrap (2 ^ t.toNat) = ((2 ^ t.toNat : Nat) : Int) ∧ IntKind.u64.wrap t = t := by
  have : t = 0 ∨ t = 1 ∨ t = 2 ∨ t = 3 ∨ t = 4 ∨ t = 5 ∨ t = 6 ∨ t = 7 := by omega
  rcases this with rfl | rfl | rfl | rfl | rfl | rfl | rfl | rfl <;> decide
theorem sqB_false1 {n x : Nat} {F : Nat → List Int} (hx : x < n) (h : isRen (n : Int) (F x) = false) : sqB n F = false := by
  rw [sqB, rowsOk_false hx h]; simp
theorem sqB_false2 {n x : Nat} {F : Nat → List Int} (hx : x < n) (h : isRen (n : Int) (col n F x) = false) : sqB n F = false := by
  rw [sqB, colsOk_false hx h]; simp
theorem isRen_out {n : Nat} {p : List Int} {z : Int} (h : z ∈ p) (hz : ¬ (0 ≤ z ∧ z < (n : Int))) : isRen (n : Int) p = false := by
  rcases e : isRen (n : Int) p with _ | _
  · rfl
  · exact absurd ((isRen_iff.1 e).2.1 z h) hz
theorem take_nx {l : List Int} {k : Nat} (h : k < l.length) : l.take (k + 1) = l.take k ++ [l[k]?.getD 0] := by
  rw [List.take_succ_eq_append_getElem h]; simp [h]
theorem colK_col (n : Nat) (F : Nat → List Int) (y : Nat) : colK F y n = col n F y := rfl
end Go.Proofs.Ytlkjacgpjolbdaa

namespace Go.Proofs.Ytlkjacgpjolbdaa
open Go.RowKit Go.Maps
/-- The code of a system and a set of its blocks. -/
def nsCode (v : Int) (bs : List Blk) (zs : List Int) : Int := if isSysImpl v bs then (if ptGo (bs.length : Int) none zs then 0 else 2) else 1
theorem ptGo_at {v : Int} {zs : List Int} {k : Nat} (hk : k < zs.length) (p : Option Int) : ptGo v p (zs.drop k) = (inP v (zs[k]?.getD 0) && (match p with | none => true | some q => decide (q < zs[k]?.getD 0)) && ptGo v (some (zs[k]?.getD 0)) (zs.drop (k + 1))) := by
  rw [List.drop_eq_getElem_cons hk]
  cases p <;> simp [ptGo, hk]
set_option maxRecDepth 100000 in
set_option maxHeartbeats 2000000 in
theorem l05Set_any (v : Int) (s : Value) (bs : List Blk) (t : Value) (zs : List Int) (w : World) (h : SB w s bs) (ht : IB w t zs) :
    Calls Try.prog 79 #[.agg #[.int .i64 v, s], t] w (RV (.int .i64 (nsCode v bs zs)) w) := by
  have hs := h.slice
  have hc := l01Is_any v s bs (w.alloc (.cells #[.int .i64 v, s] 28)) (h.below ((Below.refl _ _).alloc (Nat.le_refl _) _) (Nat.le_refl _))
  have hts : ∃ a c, t = .slice a zs.length c := by rcases ht.2 with ⟨a, c, rfl, rfl⟩ | ⟨b, off, cap, rfl, _⟩ <;> exact ⟨_, _, rfl⟩
  have hlen := h.2.1
  have htl := ht.1
  have HT := Lib.hid ht
  clear h ht
  obtain ⟨a0, c0, rfl⟩ := hs
  obtain ⟨a1, c1, rfl⟩ := hts
  cases hi : isSysImpl v bs with
  | false =>
    rw [hi] at hc
    have HC := Lib.hid hc
    have HV := Lib.hid (show nsCode v bs zs = 1 by simp [nsCode, hi])
    clear hc hi
    go_enter Try.func79, Try.ntmps79
    go_wp2_with fail
    refine HC.out.mono ?_
    rintro e w1 ⟨rfl, hb1⟩
    have hb2 := below_new hb1
    go_wp2
    go_ret
    exact RV_of (int_eq (by rw [HV.out])) hb2
  | true =>
    rw [hi] at hc
    have HC := Lib.hid hc
    have HV := Lib.hid (show nsCode v bs zs = if ptGo (bs.length : Int) none zs then 0 else 2 by simp [nsCode, hi])
    clear hc hi
    go_enter Try.func79, Try.ntmps79
    go_wp2_with fail
    refine HC.out.mono ?_
    rintro e w1 ⟨rfl, hb1⟩
    have hb2 := below_new hb1
    have p1 := cell_new hb1 1 rfl
    have HT1 := Lib.hid (HT.out.below hb2 (Nat.le_refl _))
    have HB2 := Lib.hid hb2
    clear hb1 hb2 HC HT
    have hwn : IntKind.i64.wrap ((bs.length : Int) - 1) = (bs.length : Int) - 1 := IntWalk.i64_in _ (by omega)
    go_wp2
    go_loopw [5] (fun i wr => ∃ k : Nat, k ≤ zs.length ∧ i = .int .i64 k ∧ (∃ n, wr = w1.drewN n) ∧ Hid (ptGo (bs.length : Int) none zs = ptGo (bs.length : Int) (if k = 0 then none else zs[k - 1]?) (zs.drop k))) (fun i _ => zs.length - (intOf i).toNat)
    case atStart => exact ⟨0, Nat.zero_le _, rfl, ⟨0, rfl⟩, Lib.hid (by simp)⟩
    case round =>
      obtain ⟨k, hk, rfl, ⟨n, rfl⟩, HE⟩ := hrel
      by_cases hkl : k < zs.length
      · rcases HT1.out.2 with ⟨_, _, _, hnil⟩ | ⟨b, off, cap, hv2, hplt, hpi⟩
        · exfalso; rw [hnil] at hkl; simp at hkl
        simp at hv2
        obtain ⟨rfl, rfl⟩ := hv2
        have ck := hpi k hkl
        have hat := ptGo_at (v := (bs.length : Int)) hkl (if k = 0 then none else zs[k - 1]?)
        have he := HE.out
        rw [hat] at he
        have hkk : zs[k]? = some (zs[k]?.getD 0) := by simp [hkl]
        obtain ⟨z, hz⟩ : ∃ z, z = zs[k]?.getD 0 := ⟨_, rfl⟩
        rw [← hz] at ck he hkk
        have HKK := Lib.hid hkk
        have g0 : (0 : Int) ≤ (k : Int) := by omega
        have g1 : (k : Int) < (zs.length : Int) := by omega
        have HIN := Lib.hid fun W => l01In_any z 0 ((bs.length : Int) - 1) W
        have hinp : (decide (0 ≤ z) && decide (z ≤ (bs.length : Int) - 1)) = inP (bs.length : Int) z := by rw [Bool.eq_iff_iff]; simp [inP]; omega
        rw [hinp] at HIN
        clear hz hat hkk hinp HE
        cases hin : inP (bs.length : Int) z with
        | false =>
          rw [hin] at HIN he
          have HW := Lib.hid (show nsCode v bs zs = 2 by rw [HV.out, he]; simp)
          clear hin he hpi
          go_wp2
          go_quiet ((go_at_call 67; exact RS.quiet2 (HIN.out _)))
          go_wp2
          go_ret
          exact RV_of (int_eq (by rw [HW.out])) (below_drewN (below_drewN HB2.out _) _)
        | true =>
          rw [hin] at HIN he
          by_cases hk0 : k = 0
          · subst hk0
            have HW := Lib.hid (show ptGo (bs.length : Int) none zs = ptGo (bs.length : Int) (some z) (zs.drop 1) by rw [he]; simp)
            have gd : decide ((0 : Int) < ((0 : Nat) : Int)) = false := by decide
            have c1 : w1.cell? ⟨b, off, none⟩ = some (.int .i64 z) := by simpa using ck
            clear hin he hpi ck
            go_wp2
            go_quiet ((go_at_call 67; exact RS.quiet2 (HIN.out _)))
            go_wp2
            go_roundw
            case rel => exact ⟨1, by omega, by go_num, ⟨_, rfl⟩, Lib.hid (by rw [HW.out]; simp; rw [← HKK.out])⟩
            case measure => simp [intOf]; omega
          · obtain ⟨j, rfl⟩ : ∃ j, k = j + 1 := ⟨k - 1, by omega⟩
            have cj := hpi j (by omega)
            have hj : zs[j]? = some (zs[j]?.getD 0) := by simp [show j < zs.length by omega]
            obtain ⟨y, hy⟩ : ∃ y, y = zs[j]?.getD 0 := ⟨_, rfl⟩
            rw [← hy] at cj hj
            have he2 : ptGo (bs.length : Int) none zs = (decide (y < z) && ptGo (bs.length : Int) (some z) (zs.drop (j + 1 + 1))) := by
              rw [he]
              simp only [Nat.add_one_ne_zero, if_false, Nat.add_sub_cancel]
              rw [hj]
              simp
            have HV2 := Lib.hid he2
            have gd : decide ((0 : Int) < ((j + 1 : Nat) : Int)) = true := by simp <;> omega
            have gi : (0 : Int) < (j : Int) + 1 := by omega
            have gi0 : (0 : Int) ≤ (j : Int) + 1 := by omega
            have gi1 : (j : Int) + 1 < (zs.length : Int) := by omega
            have gj0 : (0 : Int) ≤ (j : Int) := by omega
            have gj1 : (j : Int) < (zs.length : Int) := by omega
            have ej : ((j + 1 : Nat) : Int) - 1 = (j : Int) := by omega
            clear hin he he2 hy hj hpi
            by_cases hyz : y < z
            · have q1 : decide (z ≤ y) = false := by simp; omega
              have HW := Lib.hid (show ptGo (bs.length : Int) none zs = ptGo (bs.length : Int) (some z) (zs.drop (j + 1 + 1)) by rw [HV2.out]; simp [hyz])
              clear HV2
              go_wp2
              go_quiet ((go_at_call 67; exact RS.quiet2 (HIN.out _)))
              go_wp2
              go_roundw
              case rel => exact ⟨j + 1 + 1, by omega, by go_num, ⟨_, rfl⟩, Lib.hid (by rw [HW.out]; simp only [Nat.add_one_ne_zero, if_false, Nat.add_sub_cancel]; rw [← HKK.out])⟩
              case measure => simp [intOf]; omega
            · have q1 : decide (z ≤ y) = true := by simp; omega
              have q2 : z ≤ y := by omega
              have HW := Lib.hid (show nsCode v bs zs = 2 by rw [HV.out, HV2.out]; simp [hyz])
              clear HV2 hyz
              go_wp2
              go_quiet ((go_at_call 67; exact RS.quiet2 (HIN.out _)))
              go_wp2
              go_ret
              exact RV_of (int_eq (by rw [HW.out])) (below_drewN (below_drewN HB2.out _) _)
      · have HW := Lib.hid (show nsCode v bs zs = 0 by rw [HV.out, HE.out, List.drop_eq_nil_of_le (by omega)]; simp [ptGo])
        go_wp2
        go_ret
        exact RV_of (int_eq (by rw [HW.out])) (below_drewN HB2.out _)
end Go.Proofs.Ytlkjacgpjolbdaa

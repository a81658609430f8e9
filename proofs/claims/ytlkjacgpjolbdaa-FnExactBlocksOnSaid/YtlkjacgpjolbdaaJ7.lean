
/- Rows of rows of integers that a call makes by append; the squares of few points. impl.BlocksOn answers as the plain function onF. The model's insertion sort. The model's block of three points. The model's DoubleSystem answers as dblF. The model's BlocksOn. The pairs of a list of blocks, as a map. -/
import Derived.Test.YtlkjacgpjolbdaaJ6
import Derived.Deep.RegionLaw
import Derived.BigRegion
namespace Go.Proofs.Ytlkjacgpjolbdaa
open Go.RowKit Go.Maps
theorem infoRow : (Try.prog.info? 35).map (fun i => (i.zero, i.size, i.bytes)) = some (some (.slice none 0 0), 1, 24) := by kernel_rfl
def rowV (gs caps : Nat → Nat) (F : Nat → List Int) (k : Nat) : Value := .slice (some ⟨gs k, 0, none⟩) (F k).length (caps k)
/-- The value owns a slice of n rows, each in a block of its own. -/
structure AccS (w : World) (base : Nat) (u : Value) (n : Nat) (gs caps : Nat → Nat) (F : Nat → List Int) : Prop where
  own : w.ownsRow base 35 1 u n ((List.range n).map (rowV gs caps F))
  row : ∀ k, k < n → OwnAtI w (gs k) (F k)
  ne : ∀ k, k < n → u.ownBlock ≠ some (gs k)
  inc : ∀ j k, j < k → k < n → gs j ≠ gs k
  low : ∀ k, k < n → base ≤ gs k
theorem ownsRow_lt {w : World} {base : Nat} {e : TypeId} {size n : Nat} {u : Value} {xs : List Value} (h : w.ownsRow base e size u n xs) : ∀ r, u.ownBlock = some r → base ≤ r ∧ r < w.heap.size := fun r hr => by
  rcases h.2 with ⟨rfl, _⟩ | ⟨g, cap, cur, rfl, hb, hcur, _⟩
  · simp [Value.ownBlock] at hr
  · obtain rfl : g = r := by simpa [Value.ownBlock] using hr
    exact ⟨hb, (Array.getElem?_eq_some_iff.1 hcur).1⟩
theorem ownsRow_kept {w w' : World} {base : Nat} {e : TypeId} {size n : Nat} {u : Value} {xs : List Value} {row : Option Nat} (h : w.ownsRow base e size u n xs) (hg : w.grownBy w' row) (hr : row = none ∨ u.ownBlock ≠ row) : w'.ownsRow base e size u n xs := by
  obtain ⟨hl, h | ⟨g, cap, cur, rfl, hb, hcur, hrest⟩⟩ := h
  · exact ⟨hl, .inl h⟩
  · exact ⟨hl, .inr ⟨g, cap, cur, rfl, hb, (hg.block g (Array.getElem?_eq_some_iff.1 hcur).1 (fun e => by
      rcases hr with rfl | hr
      · cases e
      · exact hr (by rw [← e]; rfl))).trans hcur, hrest⟩⟩
section
variable {w w' : World} {base : Nat} {u : Value} {n : Nat} {gs caps : Nat → Nat} {F : Nat → List Int}
theorem AccS.kept (h : AccS w base u n gs caps F) {row : Option Nat} (hg : w.grownBy w' row) (hu : row = none ∨ u.ownBlock ≠ row) (hr : ∀ k, k < n → some (gs k) ≠ row) : AccS w' base u n gs caps F :=
  ⟨ownsRow_kept h.own hg hu, fun k hk => (h.row k hk).kept hg (hr k hk), h.ne, h.inc, h.low⟩
theorem AccS.below (h : AccS w base u n gs caps F) {B : Nat} (hb : Below B w w') (hB : w.heap.size ≤ B) : AccS w' base u n gs caps F :=
  h.kept (only_of_below (hb.mono hB) none) (.inl rfl) (by simp)
theorem AccS.nil (w : World) (base : Nat) (gs caps : Nat → Nat) (F : Nat → List Int) : AccS w base (.slice none 0 0) 0 gs caps F :=
  ⟨⟨rfl, .inl ⟨rfl, rfl⟩⟩, fun k hk => by omega, fun k hk => by omega, fun j k _ hk => by omega, fun k hk => by omega⟩
theorem AccS.ssr (h : AccS w base u n gs caps F) (hn : 0 < n) : ∃ G cap, u = .slice (some ⟨G, 0, none⟩) n cap ∧ base ≤ G ∧ SSR w base G gs caps n F := by
  obtain ⟨⟨hl, h1⟩, h2, h3, h4, h5⟩ := h
  rcases h1 with ⟨_, h0⟩ | ⟨g, cap, cur, rfl, hb, hcur, hn', hc, hsz, hx⟩
  · omega
  · refine ⟨g, cap, rfl, hb, ⟨fun k hk => ?_, h2, fun k hk e => h3 k hk (by rw [e]; rfl), h4, h5, (Array.getElem?_eq_some_iff.1 hcur).1⟩⟩
    have e : ((List.range n).map (rowV gs caps F))[k]? = some (rowV gs caps F k) := by simp [hk]
    rw [← hx, List.getElem?_take_of_lt (by omega)] at e
    simp [World.cell?, hcur]
    simpa [rowV] using e
end
theorem map_congr' {α β : Type} {f g : α → β} {l : List α} (h : ∀ x ∈ l, f x = g x) : l.map f = l.map g := List.map_congr_left h
theorem wpList_append_row {w : World} {ops : Array Oper} {rest : List Oper} {o : Oper} {a : Act} {Q : Exit → Act → World → Prop} (hgd : o.guard = none) (s x : Operand)
    (ho : o.op = .call { callee := .builtin .append, args := #[s, x], argTypes := #[45, 45] })
    (base : Nat) (v : Value) (n : Nat) (gs caps : Nat → Nat) (F : Nat → List Int) (hs : a.eval s = v) (hown : AccS w base v n gs caps F) (b0 c : Nat) (hx : a.eval x = .slice (some ⟨b0, 0, none⟩) 1 c) (g cg : Nat)
    (c1 : w.cell? ⟨b0, 0, none⟩ = some (.slice (some ⟨g, 0, none⟩) (F n).length cg)) (hrow : OwnAtI w g (F n)) (hgt : ∀ k, k < n → gs k < g) (hng : v.ownBlock ≠ some g) (hbg : base ≤ g) (hl : n ≤ 1100000) (hbase : base ≤ w.heap.size)
    (h : ∀ (G cap : Nat) (w' : World) (gs' caps' : Nat → Nat), AccS w' base (.slice (some ⟨G, 0, none⟩) (n + 1) cap) (n + 1) gs' caps' F → w.grownBy w' v.ownBlock → wpList Try.prog ops Q rest (a.put o.dst (.slice (some ⟨G, 0, none⟩) (n + 1) cap)) w') : wpList Try.prog ops Q (o :: rest) a w := by
  obtain ⟨i0, hi, hz0, hz1, hz2⟩ := info_parts infoRow
  refine wpList_append_own_at w hgd s x 45 ho base 35 i0 _ 1 24 Try.underlying45 hi hz0 hz1 hz2 rfl (by decide) v n _ hs hown.own ⟨b0, 0, none⟩ 1 c [.slice (some ⟨g, 0, none⟩) (F n).length cg] hx rfl ?_ ?_ (by unfold maxLen; omega) (by omega) hbase ?_
  · intro j u hj
    rw [addr_at, Nat.zero_add]
    match j, hj with
    | 0, hj => simp at hj; rw [← hj]; exact c1
    | j + 1, hj => simp at hj
  · intro u hu
    simp at hu
    rw [hu]
    rfl
  · intro v' w' hown' hg _ hob
    obtain ⟨G, cap, rfl⟩ := row_some hown'
    have hGg : G ≠ g := by
      rintro rfl
      rcases hob with e | e
      · exact hng (by rw [← e]; rfl)
      · simp [Value.ownBlock] at e
        have := hrow.lt
        omega
    refine h G cap w' (fun k => if k = n then g else gs k) (fun k => if k = n then cg else caps k) ⟨?_, fun k hk => ?_, fun k hk => ?_, fun j k hjk hk => ?_, fun k hk => ?_⟩ hg
    · rw [List.range_succ, List.map_append, List.map_singleton]
      have e1 : (List.range n).map (rowV (fun k => if k = n then g else gs k) (fun k => if k = n then cg else caps k) F) = (List.range n).map (rowV gs caps F) := map_congr' fun k hk => by
        have : k ≠ n := by have := List.mem_range.1 hk; omega
        simp [rowV, this]
      rw [e1]
      simpa [rowV] using hown'
    · split
      · subst k; exact hrow.kept hg (fun e => hng e.symm)
      · exact (hown.row k (by omega)).kept hg (fun e => hown.ne k (by omega) e.symm)
    · split
      · simpa [Value.ownBlock] using hGg
      · intro e
        have e' : G = gs k := by simpa [Value.ownBlock] using e
        rcases hob with e2 | e2
        · exact hown.ne k (by omega) (by rw [← e2, e])
        · simp [Value.ownBlock] at e2
          have := (hown.row k (by omega)).lt
          omega
    · rw [if_neg (by omega)]
      split
      · exact Nat.ne_of_lt (hgt j (by omega))
      · exact hown.inc j k hjk (by omega)
    · split
      · exact hbg
      · exact hown.low k (by omega)
/-- A slice of rows and a code. -/
def RSS (n : Nat) (F : Nat → List Int) (κ : Int) (w : World) (e : Ending) (w' : World) : Prop :=
  ∃ u G cap gs caps, e = .returned (.tuple #[u, .int .i64 κ]) ∧ Below w.heap.size w w' ∧ u = .slice (some ⟨G, 0, none⟩) n cap ∧ w.heap.size ≤ G ∧ SSR w' w.heap.size G gs caps n F
def hf (n s : Int) : Int := if (s % n) % 2 = 0 then (s % n) / 2 else if n % 2 = 0 then (s % n + n - 1) / 2 else (s % n + n) / 2
def rowP (n k : Nat) (j : Nat) : List Int := (List.range j).map fun (y : Nat) => hf n ((k : Int) + (y : Int))
def rowF (n k : Nat) : List Int := rowP n k n
theorem rowP_len (n k j : Nat) : (rowP n k j).length = j := by simp [rowP]
theorem rowP_succ (n k j : Nat) : rowP n k (j + 1) = rowP n k j ++ [hf n ((k : Int) + (j : Int))] := by simp [rowP, List.range_succ]
theorem rowP_next (n k j : Nat) (h : j < n) : (rowP n k j ++ List.replicate (n - j) 0).set j (hf n ((k : Int) + (j : Int))) = rowP n k (j + 1) ++ List.replicate (n - (j + 1)) 0 := by
  rw [rowP_succ, show n - j = (n - (j + 1)) + 1 by omega, List.replicate_succ, List.set_append_right _ _ (by rw [rowP_len]; omega), rowP_len, Nat.sub_self, List.set_cons_zero, List.append_assoc]
  rfl
theorem made_ints (w : World) (n : Nat) (T : TypeId) : OwnAtI (w.alloc (.cells (madeCells #[.int .i64 0] n) T)) w.heap.size (List.replicate n 0) := by
  refine ⟨by simp, fun k hk => ?_, fun o => by simp⟩
  rw [List.length_replicate] at hk
  rw [World.cell?_alloc_at _ _ _ _ rfl]
  simp [madeCells, hk, Nat.mod_one]
end Go.Proofs.Ytlkjacgpjolbdaa

namespace Go.Proofs.Ytlkjacgpjolbdaa
open Go.RowKit Go.Maps
theorem plK_some {pts : List Int} {x y : Blk} (h : onB pts x = some y) : plK pts x 3 = [y.a, y.b, y.c] := by
  unfold onB at h
  split at h
  · rename_i hh
    cases h
    simp [plK, plO, hh.1, hh.2.1, hh.2.2]
  · cases h
theorem plK_none {pts : List Int} {x : Blk} (h : onB pts x = none) : (plK pts x 3).length ≠ 3 := by
  unfold onB at h
  split at h
  · cases h
  · rename_i hh
    have e : ∀ z, (plO pts z).length = 1 ∧ 0 ≤ place pts z ∨ (plO pts z).length = 0 := fun z => by
      unfold plO
      split
      · exact .inl ⟨rfl, by assumption⟩
      · exact .inr rfl
    have h1 := e x.a
    have h2 := e x.b
    have h3 := e x.c
    unfold plK
    simp only [List.length_append]
    intro hc
    exact hh (by omega)
theorem set1_other {w : World} {b : Nat} {u v : Value} (h : w.cell? ⟨b, 0, none⟩ = some u) : (w.setCell ⟨b, 1, none⟩ v).cell? ⟨b, 0, none⟩ = some u := by
  rw [World.cell?_setCell_other (a := ⟨b, 1, none⟩) (b := ⟨b, 0, none⟩) (h := by simp)]
  exact h
theorem set1_same {w : World} {b : Nat} {u v : Value} (h : w.cell? ⟨b, 1, none⟩ = some u) : (w.setCell ⟨b, 1, none⟩ v).cell? ⟨b, 1, none⟩ = some v := by
  rw [World.cell?_setCell_same (h := h)]
theorem set1_gb (w : World) (b : Nat) (v : Value) : w.grownBy (w.setCell ⟨b, 1, none⟩ v) (some b) := only_setCell (only_refl w (some b)) rfl v
theorem OwnR.kept1 {w w' : World} {base b : Nat} {v : Value} {bs : List Blk} (h : OwnR w base v bs) (hg : w.grownBy w' (some b)) (hb : b < base) : OwnR w' base v bs := by
  obtain ⟨hl, h | ⟨g, cap, cur, rfl, hb', hcur, hrest⟩⟩ := h
  · exact ⟨hl, .inl h⟩
  · exact ⟨hl, .inr ⟨g, cap, cur, rfl, hb', (hg.block g (Array.getElem?_eq_some_iff.1 hcur).1 (fun e => by cases e; omega)).trans hcur, hrest⟩⟩
theorem sx_onec (W : World) (y : Blk) (T : TypeId) : SX (W.alloc (.cells #[.int .i64 y.a, .int .i64 y.b, .int .i64 y.c] T)) (.slice (some ⟨W.heap.size, 0, none⟩) 1 1) [y] :=
  .inr ⟨W.heap.size, 0, 1, rfl, by simp, fun k hk => by
    have : k = 0 := by simp at hk; omega
    subst this
    simp⟩
set_option maxRecDepth 100000 in
set_option maxHeartbeats 1000000 in
theorem BlocksOn_any (v : Int) (s : Value) (bs : List Blk) (t : Value) (pts : List Int) (w : World) (h : SB w s bs) (ht : IB w t pts) :
    Calls Try.prog 28 #[.agg #[.int .i64 v, s], t] w (RSys (onF v bs pts) w) := by
  have hs := h.slice
  have HI := Lib.hid fun W (hb : Below w.heap.size w W) => IsSystem_any v s bs W (h.below hb (Nat.le_refl _))
  have HR := Lib.hid fun W (hb : Below w.heap.size w W) => isNumberSet_any v t pts W (ht.below hb (Nat.le_refl _))
  have HSB := Lib.hid h
  have hlen := h.2.1
  have htl := ht.1
  have hts : ∃ a c, t = .slice a pts.length c := by rcases ht.2 with ⟨a, c, rfl, rfl⟩ | ⟨b, off, cap, rfl, _⟩ <;> exact ⟨_, _, rfl⟩
  have HT := Lib.hid ht
  clear h ht
  obtain ⟨a0, c0, rfl⟩ := hs
  obtain ⟨a1, c1, rfl⟩ := hts
  cases hi : isSysImpl v bs with
  | false =>
    have hval : onF v bs pts = (0, [], 1) := by simp [onF, hi]
    rw [hval]
    rw [hi] at HI
    clear hval hi HSB HR HT
    go_enter Try.func28, Try.ntmps28
    go_wp2_with (go_at_call 70; refine (HI.out _ (below2 _ _ _ _)).mono ?_; rintro e w1 ⟨rfl, hb1⟩; obtain ⟨_, _, d0, d1, f0, f1, hbw, hlt⟩ := boxes2 hb1)
    exact bodyPost_ret (v := .tuple #[.agg #[.int .i64 0, .slice none 0 0], .int .i64 1]) (by simp [results, Try.results28, go_sem, *]) rfl ⟨_, rfl, .inl ⟨rfl, _, _, rfl⟩, below_set2 hbw (by omega) _ _⟩
  | true =>
    rw [hi] at HI
    obtain ⟨hv3, hv15, hb35⟩ := sys_size hi
    by_cases hl3 : pts.length < 3
    · have hval : onF v bs pts = (0, [], 2) := by simp [onF, hi, show ¬ 3 ≤ pts.length by omega]
      have q1 : decide ((pts.length : Int) < 3) = true := by simp; omega
      have q2 : (pts.length : Int) < 3 := by omega
      rw [hval]
      clear hval hi HSB HT HR hl3
      go_enter Try.func28, Try.ntmps28
      go_wp2_with fail
      refine (HI.out _ (below2 _ _ _ _)).mono ?_
      rintro e w1 ⟨rfl, hb1⟩
      obtain ⟨p0, p1, d0, d1, f0, f1, hbw, hlt⟩ := boxes2 hb1
      go_wp2
      exact bodyPost_ret (v := .tuple #[.agg #[.int .i64 0, .slice none 0 0], .int .i64 2]) (by simp [results, Try.results28, go_sem, *]) rfl ⟨_, rfl, .inl ⟨rfl, _, _, rfl⟩, below_set2 hbw (by omega) _ _⟩
    have q1 : decide ((pts.length : Int) < 3) = false := by simp; omega
    cases hr : ptGo v none pts with
    | false =>
      have hval : onF v bs pts = (0, [], 2) := by simp [onF, hi, hr]
      rw [hval]
      rw [hr] at HR
      clear hval hi hr HSB HT hl3
      go_enter Try.func28, Try.ntmps28
      go_wp2_with fail
      refine (HI.out _ (below2 _ _ _ _)).mono ?_
      rintro e w1 ⟨rfl, hb1⟩
      obtain ⟨p0, p1, d0, d1, f0, f1, hbw, hlt⟩ := boxes2 hb1
      clear hb1
      go_wp2_with fail
      refine (HR.out _ hbw).mono ?_
      rintro e w2 ⟨rfl, rfl⟩
      go_wp2
      exact bodyPost_ret (v := .tuple #[.agg #[.int .i64 0, .slice none 0 0], .int .i64 2]) (by simp [results, Try.results28, go_sem, *]) rfl ⟨_, rfl, .inl ⟨rfl, _, _, rfl⟩, below_set2 hbw (by omega) _ _⟩
    | true =>
      have hval : onF v bs pts = ((pts.length : Int), bs.filterMap (onB pts), 0) := by simp [onF, hi, hr]; omega
      rw [hval]
      rw [hr] at HR
      clear hval hi hr hl3
      go_enter Try.func28, Try.ntmps28
      go_wp2_with fail
      refine (HI.out _ (below2 _ _ _ _)).mono ?_
      rintro e w2 ⟨rfl, hb1⟩
      obtain ⟨p0, p1, e0, e1, k0, k1, hbw2, hlt⟩ := boxes2 hb1
      clear hb1
      go_wp2_with fail
      refine (HR.out _ hbw2).mono ?_
      rintro e w2' ⟨rfl, rfl⟩
      have hlt2 : w.heap.size + 1 < w2.heap.size := by omega
      have hlt3 : w.heap.size < w2.heap.size := by omega
      have HSX := Lib.hid (HSB.out.below hbw2 (Nat.le_refl _)).sx
      have HT2 := Lib.hid (HT.out.below hbw2 (Nat.le_refl _))
      have HSIX := Lib.hid (show Six w2 w.heap.size v (.slice a0 bs.length c0) from ⟨p0, p1, e0, e1, k0, k1⟩)
      clear e0 e1 k0 k1
      go_wp2_with fail
      go_loopw [31] (fun t wr => ∃ k : Nat, k ≤ bs.length ∧ t = .int .i64 k ∧ Below w2.heap.size w2 wr ∧ w2.heap.size < wr.heap.size ∧ ∃ a n c, wr.cell? ⟨w2.heap.size, 0, none⟩ = some (.int .i64 pts.length) ∧ wr.cell? ⟨w2.heap.size, 1, none⟩ = some (.slice a n c) ∧ wr.frozen? ⟨w2.heap.size, 1, none⟩ = false ∧ OwnR wr (w2.heap.size + 1) (.slice a n c) ((bs.take k).filterMap (onB pts))) (fun t _ => bs.length - (intOf t).toNat)
      case atStart => exact ⟨0, Nat.zero_le _, rfl, (Below.refl _ _).alloc (Nat.le_refl _) _, by simp, _, _, _, by simp [go_sem], by simp [go_sem], by simp [go_sem], OwnR.nil _ _⟩
      case round =>
        obtain ⟨k, hk, rfl, hB, hzP, a5, n5, c5, u0, u1, u2, hO⟩ := hrel
        have hz := hB.size
        have hz1 : w.heap.size < wr.heap.size := by omega
        have r0 := (hB.cell (p := ⟨w.heap.size, 0, none⟩) hlt3).trans p0
        have r1 := (hB.cell (p := ⟨w.heap.size, 1, none⟩) hlt3).trans p1
        have HO5 := Lib.hid hO
        clear hO
        by_cases hkl : k < bs.length
        · rcases HSX.out with ⟨_, _, _, hnil⟩ | ⟨b, off, cap, hv, hblt, hbl⟩
          · rw [hnil] at hkl; simp at hkl
          simp at hv
          obtain ⟨rfl, rfl⟩ := hv
          have hz4 : b < wr.heap.size := by omega
          obtain ⟨x, hx, ex, x1, x2, x3⟩ := blks_at (hbl.below hB hblt) hkl
          have i0 : (0 : Int) ≤ (k : Int) := by omega
          have i1 : (k : Int) < (bs.length : Int) := by omega
          have hl3 : ((bs.take k).filterMap (onB pts)).length ≤ 1000 := Nat.le_trans (List.length_filterMap_le _ _) (by simp; omega)
          have hsucc := filterMap_take (pts := pts) hkl ex
          obtain ⟨L, hL⟩ : ∃ L, L = (bs.take k).filterMap (onB pts) := ⟨_, rfl⟩
          rw [← hL] at HO5 hsucc hl3
          have HSU := Lib.hid hsucc
          have HPO := Lib.hid fun W (hI : IB W (.slice a1 pts.length c1) pts) => placesOf_any x _ pts W hI
          have HT4 := Lib.hid (HT2.out.below hB (Nat.le_refl _))
          clear hx ex hbl hsucc hL
          cases hon : onB pts x with
          | none =>
            have hne := plK_none hon
            rw [hon] at HSU
            obtain ⟨n4, hn4⟩ : ∃ n, n = (plK pts x 3).length := ⟨_, rfl⟩
            rw [← hn4] at hne
            have HN := Lib.hid hn4
            obtain ⟨xa, xb, xc⟩ := x
            unfold bv at HPO
            dsimp only at x1 x2 x3 HPO
            clear hon hn4
            have g1 : ((n4 : Int) == 3) = false := by simp; omega
            have g2 : decide ((n4 : Int) = 3) = false := by simp; omega
            go_wp2_with fail
            refine (HPO.out _ (HT4.out.below ((Below.refl _ _).alloc (Nat.le_refl _) _) (Nat.le_refl _))).mono ?_
            rintro e w4 ⟨u, rfl, ho4, hb4⟩
            obtain ⟨a4, c4, hu4⟩ := ho4.formS
            rw [← HN.out] at hu4
            subst hu4
            have hB4 : Below wr.heap.size wr w4 := ((Below.refl _ _).alloc (Nat.le_refl _) _).trans (hb4.mono (by simp))
            have hz5 := hB4.size
            go_wp2
            go_roundw
            case rel => exact ⟨k + 1, by omega, by go_num, hB.trans (hB4.mono hz), by omega, a5, n5, c5, (hB4.cell (p := ⟨w2.heap.size, 0, none⟩) hzP).trans u0, (hB4.cell (p := ⟨w2.heap.size, 1, none⟩) hzP).trans u1, (hB4.frozen (p := ⟨w2.heap.size, 1, none⟩) hzP).trans u2, by rw [HSU.out]; simpa using HO5.out.below hB4 (Nat.le_refl _)⟩
            case measure => simp [intOf]; omega
          | some y =>
            have hpl := plK_some hon
            rw [hon] at HSU
            rw [hpl] at HPO
            obtain ⟨xa, xb, xc⟩ := x
            obtain ⟨ya, yb, yc⟩ := y
            unfold bv at HPO
            dsimp only at x1 x2 x3 HPO
            clear hon hpl
            go_wp2_with fail
            refine (HPO.out _ (HT4.out.below ((Below.refl _ _).alloc (Nat.le_refl _) _) (Nat.le_refl _))).mono ?_
            rintro e w4 ⟨u, rfl, ho4, hb4⟩
            have hB4 : Below wr.heap.size wr w4 := ((Below.refl _ _).alloc (Nat.le_refl _) _).trans (hb4.mono (by simp))
            have hz5 := hB4.size
            rcases (ho4.ib (by simp)).2 with ⟨_, _, _, hnil⟩ | ⟨g4, o4, c4, rfl, hg4, hI4⟩
            · cases hnil
            have y0 : w4.cell? ⟨g4, o4, none⟩ = some (.int .i64 ya) := by simpa using hI4 0 (by simp)
            have y1 : w4.cell? ⟨g4, o4 + 1, none⟩ = some (.int .i64 yb) := by simpa using hI4 1 (by simp)
            have y2 : w4.cell? ⟨g4, o4 + 2, none⟩ = some (.int .i64 yc) := by simpa using hI4 2 (by simp)
            have t0 := (hB4.cell (p := ⟨w2.heap.size, 0, none⟩) hzP).trans u0
            have t1 := (hB4.cell (p := ⟨w2.heap.size, 1, none⟩) hzP).trans u1
            have t2 := (hB4.frozen (p := ⟨w2.heap.size, 1, none⟩) hzP).trans u2
            have HO6 := Lib.hid (HO5.out.below hB4 (Nat.le_refl _))
            have hB5 := hB.trans (hB4.mono hz)
            have hzw : w2.heap.size < w4.heap.size := by omega
            have s2a : ∀ W, (Instr.arrayAt 70 (.slice (some ⟨g4, o4, none⟩) 3 c4)).run Try.prog W = .ok (.pointer (some ⟨g4, o4, none⟩)) W := fun _ => by kernel_rfl
            clear x1 x2 x3 r0 r1 u0 u1 u2 hI4 ho4 hb4 hB4 HPO
            go_wp2_with fail
            go_region_law (refine step_append_many rfl (.tmp 42) (.tmp 46) rfl (w2.heap.size + 1) (.slice a5 n5 c5) L (by simp [Act.eval]) (by first | exact HO6.out.below ((Below.refl _ _).alloc (Nat.le_refl _) _) (Nat.le_refl _) | exact HO6.out.below (((Below.refl _ _).alloc (Nat.le_refl _) _).drew) (Nat.le_refl _)) (.slice (some ⟨w4.heap.size, 0, none⟩) 1 1) [⟨ya, yb, yc⟩] (by simp [Act.eval]) (by first | exact sx_onec w4 ⟨ya, yb, yc⟩ _ | exact (sx_onec w4 ⟨ya, yb, yc⟩ _).below ((Below.refl _ _).drew) (Nat.le_refl _)) (by simp; omega) (by simp; omega) ?_; intro a3 c3 w3 ho3 hg3; have hgw : w4.grownBy w3 (Value.slice a5 n5 c5).ownBlock := gb_trans (World.grownBy_alloc _ _ none) (by first | exact hg3 | exact gb_drewL hg3); have m0 := hgw.cell t0 (fun e => by have := HO6.out.row _ e.symm; simp at this; omega); have m1 := hgw.cell t1 (fun e => by have := HO6.out.row _ e.symm; simp at this; omega); have m2 : w3.frozen? ⟨w2.heap.size, 1, none⟩ = false := (World.frozen?_of_block (a := ⟨w2.heap.size, 1, none⟩) (hgw.block w2.heap.size hzw (fun e => by have := HO6.out.row _ e.symm; omega))).trans t2)
            all_goals
              have hB6 := hB5.grown hgw (by omega) (fun j e => by have := HO6.out.row j e; omega)
              have hz7 := hgw.size
              go_wp2
              go_roundw
              case rel => exact ⟨k + 1, by omega, by go_num, hB6.setCell (p := ⟨w2.heap.size, 1, none⟩) (Nat.le_refl _) _, by simp; omega, a3, _, c3, set1_other m0, set1_same m1, by simpa using m2, by rw [HSU.out]; exact OwnR.kept1 ho3 (set1_gb _ _ _) (by omega)⟩
              case measure => simp [intOf]; omega
        · have e : k = bs.length := by omega
          subst e
          rw [List.take_length] at HO5
          have i1 : decide ((bs.length : Int) < (bs.length : Int)) = false := by simp
          obtain ⟨e0, e1, k0, k1⟩ := HSIX.out.2.2
          have f0 := (hB.cell (p := ⟨w.heap.size + 1, 0, none⟩) hlt2).trans e0
          have f1 := (hB.cell (p := ⟨w.heap.size + 1, 1, none⟩) hlt2).trans e1
          have f2 := (hB.frozen (p := ⟨w.heap.size + 1, 0, none⟩) hlt2).trans k0
          have f3 := (hB.frozen (p := ⟨w.heap.size + 1, 1, none⟩) hlt2).trans k1
          clear e0 e1 k0 k1
          have hB9 : Below w.heap.size w wr := hbw2.trans (hB.mono (by omega))
          have hres := HO5.out.res
          go_wp2
          have hfin := (hres.kept (gb_set2 wr (w.heap.size + 1) (.int .i64 pts.length) (.slice a5 n5 c5)) (fun r e => by cases e; exact .inl (by omega))).wide (lo' := w.heap.size) (by omega) (gb_set2 wr (w.heap.size + 1) (.int .i64 pts.length) (.slice a5 n5 c5)).size
          exact bodyPost_ret (v := .tuple #[.agg #[.int .i64 pts.length, .slice a5 n5 c5], .int .i64 0]) (by simp [results, Try.results28, go_sem, *]) rfl ⟨_, rfl, hfin, below_set2 hB9 (by omega) _ _⟩
end Go.Proofs.Ytlkjacgpjolbdaa

namespace Go.Proofs.Ytlkjacgpjolbdaa
open Go.RowKit Go.Maps
theorem ins_start (x : Blk) (l : List Blk) : l ++ [x] = l.take l.length ++ x :: l.drop l.length := by simp
theorem ins_round (l : List Blk) {m : Nat} (hm : m < l.length) (y : Blk) : (l.take (m + 1) ++ y :: l.drop (m + 1)).set (m + 1) (l[m]?.getD default) = l.take m ++ (l[m]?.getD default) :: l.drop m := by
  have h1 : (l.take (m + 1)).length = m + 1 := by simp; omega
  rw [List.set_append_right _ _ (by omega), h1, Nat.sub_self, List.set_cons_zero]
  rw [List.getElem?_eq_getElem hm, Option.getD_some, List.take_succ_eq_append_getElem hm, List.append_assoc]
  congr 1
  rw [List.singleton_append, List.drop_eq_getElem_cons hm]
theorem ins_end (l : List Blk) {m : Nat} (hm : m ≤ l.length) (x y : Blk) : (l.take m ++ y :: l.drop m).set m x = l.take m ++ x :: l.drop m := by
  have h1 : (l.take m).length = m := by simp; omega
  rw [List.set_append_right _ _ (by omega), h1, Nat.sub_self, List.set_cons_zero]
theorem ins_len (l : List Blk) {m : Nat} (hm : m ≤ l.length) (y : Blk) : (l.take m ++ y :: l.drop m).length = l.length + 1 := by
  simp; omega
theorem ins_at (l : List Blk) {m : Nat} (hm : m < l.length) (y : Blk) : (l.take (m + 1) ++ y :: l.drop (m + 1))[m]?.getD default = l[m]?.getD default := by
  rw [List.getElem?_append_left (by simp; omega), List.getElem?_take_of_lt (by omega)]
set_option maxRecDepth 100000 in
set_option maxHeartbeats 1000000 in
theorem l01Sort_any (s : Value) (bs : List Blk) (w : World) (h : SX w s bs) (hl : bs.length ≤ 100000) :
    Calls Try.prog 150 #[s] w fun e w' => ∃ u, e = .returned u ∧ OwnR w' w.heap.size u (sortB bs) ∧ Below w.heap.size w w' := by
  have hs : ∃ a c, s = .slice a bs.length c := by rcases h with ⟨a0, c0, rfl, rfl⟩ | ⟨b, off, cap, rfl, _⟩ <;> exact ⟨_, _, rfl⟩
  have HSX := Lib.hid h
  clear h
  obtain ⟨a0, c0, rfl⟩ := hs
  go_enter Try.func150, Try.ntmps150
  go_wp2
  have ho0 := lit_own w
  obtain ⟨w0, hw0⟩ : ∃ w0, w.alloc (.cells #[] 70) = w0 := ⟨_, rfl⟩
  have hB0 : Below w.heap.size w w0 := by rw [← hw0]; exact (Below.refl _ _).alloc (Nat.le_refl _) _
  have hz0 : w.heap.size < w0.heap.size := by rw [← hw0]; simp
  rw [hw0] at ho0 ⊢
  have HO0 := Lib.hid ho0
  clear hw0 ho0
  go_loopw [3, 4] (fun o i wr => ∃ k : Nat, k ≤ bs.length ∧ i = .int .i64 k ∧ Below w.heap.size w wr ∧ OwnR wr w.heap.size o (sortB (bs.take k)) ∧ ∃ a c, o = .slice a k c) (fun _ i _ => bs.length - (intOf i).toNat)
  case atStart => exact ⟨0, Nat.zero_le _, rfl, hB0, by simpa [sortB] using HO0.out, _, _, rfl⟩
  case round =>
    obtain ⟨k, hk, rfl, hB, hO, a3, c3, rfl⟩ := hrel
    have hz := hB.size
    by_cases hkl : k < bs.length
    · rcases HSX.out with ⟨_, _, _, hnil⟩ | ⟨b, off, cap, hv, hblt, hbl⟩
      · rw [hnil] at hkl; simp at hkl
      · simp at hv
        obtain ⟨rfl, rfl⟩ := hv
        have HBL := Lib.hid hbl
        obtain ⟨x, hx, ex, x1, x2, x3⟩ := blks_at (hbl.below hB hblt) hkl
        obtain ⟨l, hl1⟩ : ∃ l, l = sortB (bs.take k) := ⟨_, rfl⟩
        have hll : l.length = k := by rw [hl1, sortB_length]; simp; omega
        have hnext : sortB (bs.take (k + 1)) = insB x l := by
          rw [List.getElem?_eq_getElem hkl] at ex
          have ex' : bs[k] = x := by simpa using ex
          rw [take_next hkl, ex', sortB_snoc, hl1]
        rw [← hl1] at hO
        have HO := Lib.hid hO
        have HNX := Lib.hid hnext
        have HLL := Lib.hid hll
        have hlen2 : l.length ≤ 100000 := by omega
        have g0 : (0 : Int) ≤ (k : Int) := by omega
        have g1 : (k : Int) < (bs.length : Int) := by omega
        have HEX := Lib.hid ex
        clear hx ex hl1 hO hnext hll hbl
        go_wp2_with (at_builtin; refine wpList_append_blk rfl _ _ rfl w.heap.size _ l rfl (HO.out.below ((Below.refl _ _).alloc (Nat.le_refl _) _) (Nat.le_refl _)) _ _ x rfl (by simp [go_sem]) (by simp [go_sem]) (by simp [go_sem]) (by omega) (by simp; omega) ?_; intro g' cap' w4 hO4 hg4)
        have hB4 : Below w.heap.size w w4 := (hB.alloc (by omega) _).grown hg4 (by simp; omega) (fun r e => HO.out.row r e)
        have HBR := Lib.hid (l01Before_any x)
        have HX := Lib.hid (show bs[k]?.getD default = x by rw [HEX.out]; rfl)
        clear hg4 x1 x2 x3
        go_loopw [5] (fun t wr2 => ∃ m : Nat, m ≤ k ∧ t = .int .i64 m ∧ Below w.heap.size w wr2 ∧ (∃ y, OwnR wr2 w.heap.size (.slice (some ⟨g', 0, none⟩) (l.length + 1) cap') (l.take m ++ y :: l.drop m)) ∧ Hid (posB x l l.length = posB x l m)) (fun t _ => (intOf t).toNat)
        case atStart => exact ⟨k, Nat.le_refl _, rfl, hB4, ⟨x, by have := hO4; rw [ins_start, HLL.out] at this; rw [HLL.out]; exact this⟩, Lib.hid (by rw [HLL.out])⟩
        case round =>
          obtain ⟨m, hm, rfl, hB2, ⟨y, hO2⟩, HP⟩ := hrel
          obtain ⟨hn0, hgb, hat⟩ := hO2.at_
          clear hn0
          have hxx := (HBL.out.below hB2 hblt) k hkl
          rw [HX.out] at hxx
          obtain ⟨x1, x2, x3⟩ := hxx
          have hglt := hat.lt
          have hz2 := hB2.size
          have hblt2 : b < wr.heap.size := by omega
          have hfree := hat.free
          have HO2 := Lib.hid hO2
          rcases m with _ | m
          · rw [show ((0 : Nat) : Int) = 0 from rfl]
            have gl1 : (0 : Int) < ((l.length + 1 : Nat) : Int) := by omega
            have gl2 : (0 : Int) < (l.length : Int) + 1 := by omega
            obtain ⟨c1, c2, c3'⟩ := hat.at_ 0 (by rw [ins_len l (Nat.zero_le _) y]; omega)
            simp only [Nat.zero_mul, Nat.zero_add] at c1 c2 c3'
            have hnew := HO2.out.set3 (i := 0) (by rw [ins_len l (Nat.zero_le _) y]; omega) x
            rw [ins_end l (Nat.zero_le _) x y] at hnew
            have hins : insB x l = l.take 0 ++ x :: l.drop 0 := by unfold insB; rw [HP.out]; rfl
            rw [← hins, ← HNX.out] at hnew
            simp only [Nat.zero_mul, Nat.zero_add] at hnew
            have HN := Lib.hid hnew
            clear hO2 hat hnew hins
            go_wp2
            go_quiet (fail)
            go_wp2
            go_roundw
            case rel => exact ⟨k + 1, by omega, by go_num, (((below_drewN hB2 _).setCell (p := ⟨g', 0, none⟩) hgb _).setCell (p := ⟨g', 1, none⟩) hgb _).setCell (p := ⟨g', 2, none⟩) hgb _, HN.out, _, _, by rw [HLL.out]⟩
            case measure => simp [intOf]; omega
          · have hml : m < l.length := by rw [HLL.out]; omega
            have hm1 : m + 1 ≤ l.length := by omega
            have gl1 : (m : Int) + 1 < ((l.length + 1 : Nat) : Int) := by omega
            have gl2 : (m : Int) + 1 < (l.length : Int) + 1 := by omega
            have gl3 : (m : Int) < ((l.length + 1 : Nat) : Int) := by omega
            have gl4 : (m : Int) < (l.length : Int) + 1 := by omega
            have gl5 : (0 : Int) < (m : Int) + 1 := by omega
            have gl6 : (0 : Int) ≤ (m : Int) := by omega
            have gl7 : (m : Int) ≤ 100000 := by omega
            have hatm := hat.at_ m (by rw [ins_len l hm1 y]; omega)
            rw [ins_at l hml y, Nat.zero_add] at hatm
            obtain ⟨c1, c2, c3'⟩ := hat.at_ (m + 1) (by rw [ins_len l hm1 y]; omega)
            rw [Nat.zero_add] at c1 c2 c3'
            obtain ⟨z, hz⟩ : ∃ z, z = l[m]?.getD default := ⟨_, rfl⟩
            have hpos : posB x l (m + 1) = if befB x (l[m]?.getD default) then posB x l m else m + 1 := rfl
            rw [← hz] at hatm hpos
            have HZ := Lib.hid hz
            have HPP := Lib.hid hpos
            obtain ⟨q1, q2, q3⟩ := hatm
            have hbr := HBR.out z
            clear hO2 hat hpos hz
            have r1 := cell_regrown x1
            have r2 := cell_regrown x2
            have r3 := cell_regrown x3
            have s1 := cell_regrown q1
            have s2 := cell_regrown q2
            have s3 := cell_regrown q3
            have t1 := cell_regrown c1
            have t2 := cell_regrown c2
            have t3 := cell_regrown c3'
            have rf : ∀ d os o, (Sort.grow (redrawn wr d) os).frozen? ⟨g', o, none⟩ = false := fun d os o => ((below_regrown wr d os).frozen (p := ⟨g', o, none⟩) hglt).trans (hfree o)
            obtain ⟨za, zb, zc⟩ := z
            obtain ⟨xa, xb, xc⟩ := x
            unfold bv at hbr
            dsimp only at hbr x1 x2 x3 q1 q2 q3 r1 r2 r3 s1 s2 s3
            cases hbe : befB ⟨xa, xb, xc⟩ ⟨za, zb, zc⟩ with
            | false =>
              rw [hbe] at hbr
              have HC := Lib.hid hbr
              have HBE := Lib.hid hbe
              clear hbr hbe
              go_wp2
              refine wp_region_quiet_below (by kernel_rfl) (by kernel_rfl) ?_
              repeat (go_big_quiet_step (exact Calls.regrown_of (HC.out _)))
              refine wpQuiet_nil ?_
              intro _ hw'
              obtain ⟨⟨dq, osq⟩, hw''⟩ := hw'
              subst hw''
              go_wp2
              have hnew := (HO2.out.below (below_regrown wr dq osq) (Nat.le_refl _)).set3 (i := m + 1) (by rw [ins_len l hm1 y]; omega) ⟨xa, xb, xc⟩
              rw [ins_end l hm1 _ y] at hnew
              have hins : insB ⟨xa, xb, xc⟩ l = l.take (m + 1) ++ ⟨xa, xb, xc⟩ :: l.drop (m + 1) := by unfold insB; rw [HP.out, HPP.out, if_neg (by rw [HBE.out]; decide)]
              rw [← hins, ← HNX.out] at hnew
              have HN := Lib.hid hnew
              clear hnew hins
              go_roundw
              case rel => exact ⟨k + 1, by omega, by go_num, (((hB2.trans ((below_regrown wr dq osq).mono hz2)).setCell (p := ⟨g', (m + 1) * 3, none⟩) hgb _).setCell (p := ⟨g', (m + 1) * 3 + 1, none⟩) hgb _).setCell (p := ⟨g', (m + 1) * 3 + 2, none⟩) hgb _, HN.out, _, _, by rw [HLL.out]⟩
              case measure => simp [intOf]; omega
            | true =>
              rw [hbe] at hbr
              have HC := Lib.hid hbr
              have HBE := Lib.hid hbe
              clear hbr hbe
              go_wp2
              refine wp_region_quiet_below (by kernel_rfl) (by kernel_rfl) ?_
              repeat (go_big_quiet_step (exact Calls.regrown_of (HC.out _)))
              refine wpQuiet_nil ?_
              intro _ hw'
              obtain ⟨⟨dq, osq⟩, hw''⟩ := hw'
              subst hw''
              go_wp2
              have hnew := (HO2.out.below (below_regrown wr dq osq) (Nat.le_refl _)).set3 (i := m + 1) (by rw [ins_len l hm1 y]; omega) ⟨za, zb, zc⟩
              have hro := ins_round l hml y
              rw [← HZ.out] at hro
              rw [hro] at hnew
              have HN := Lib.hid hnew
              clear hnew hro
              go_roundw
              case rel => exact ⟨m, by omega, rfl, (((hB2.trans ((below_regrown wr dq osq).mono hz2)).setCell (p := ⟨g', (m + 1) * 3, none⟩) hgb _).setCell (p := ⟨g', (m + 1) * 3 + 1, none⟩) hgb _).setCell (p := ⟨g', (m + 1) * 3 + 2, none⟩) hgb _, ⟨⟨za, zb, zc⟩, HN.out⟩, Lib.hid (by rw [HP.out, HPP.out, if_pos HBE.out])⟩
              case measure => simp [intOf]
    · go_wp2
      go_ret
      have e : k = bs.length := by omega
      subst e
      rw [List.take_length] at hO
      exact ⟨_, rfl, hO, hB⟩
set_option maxRecDepth 100000 in
theorem l01Made_any (v : Int) (s : Value) (bs : List Blk) (w : World) (h : SX w s bs) (hl : bs.length ≤ 100000) :
    Calls Try.prog 126 #[.int .i64 v, s] w fun e w' => ∃ u, e = .returned (.agg #[.int .i64 v, u]) ∧ ResR w' w.heap.size w'.heap.size u (sortB bs) ∧ Below w.heap.size w w' := by
  have hs : ∃ a c, s = .slice a bs.length c := by rcases h with ⟨a0, c0, rfl, rfl⟩ | ⟨b, off, cap, rfl, _⟩ <;> exact ⟨_, _, rfl⟩
  have HS := Lib.hid (l01Sort_any s bs (w.alloc (.cells #[.int .i64 0, .slice none 0 0] 28)) (h.below ((Below.refl _ _).alloc (Nat.le_refl _) _) (Nat.le_refl _)) hl)
  clear h
  obtain ⟨a0, c0, rfl⟩ := hs
  go_enter Try.func126, Try.ntmps126
  go_wp2_with fail
  refine HS.out.mono ?_
  rintro e w1 ⟨u, rfl, ho, hb1⟩
  have hlt : w.heap.size < w1.heap.size := by have := hb1.size; simp at this; omega
  have hbw : Below w.heap.size w w1 := ((Below.refl _ _).alloc (Nat.le_refl _) _).trans (hb1.mono (by simp))
  have d0 := cell_new hb1 0 rfl
  have d1 := cell_new hb1 1 rfl
  have f0 : w1.frozen? ⟨w.heap.size, 0, none⟩ = false := (hb1.frozen (p := ⟨w.heap.size, 0, none⟩) (by simp)).trans (by simp [go_sem])
  have f1 : w1.frozen? ⟨w.heap.size, 1, none⟩ = false := (hb1.frozen (p := ⟨w.heap.size, 1, none⟩) (by simp)).trans (by simp [go_sem])
  have hr := ho.res
  have hbase : (w.alloc (.cells #[.int .i64 0, .slice none 0 0] 28)).heap.size = w.heap.size + 1 := by simp
  rw [hbase] at hr
  obtain ⟨a3, n3, hs3⟩ := hr.slice
  obtain ⟨m3, hm3⟩ : ∃ m, m = (sortB bs).length := ⟨_, rfl⟩
  rw [← hm3] at hs3
  clear hm3 ho hb1 hbase
  subst hs3
  go_wp2
  exact bodyPost_ret (v := .agg #[.int .i64 v, .slice a3 m3 n3]) (by simp [results, Try.results126, go_sem, *]) rfl ⟨_, rfl, (hr.kept (gb_set2 w1 w.heap.size (.int .i64 v) (.slice a3 m3 n3)) (fun r e => by cases e; exact .inl (by omega))).wide (by omega) (by simp [World.setCell]), below_set2 hbw (by omega) _ _⟩
end Go.Proofs.Ytlkjacgpjolbdaa

namespace Go.Proofs.Ytlkjacgpjolbdaa
open Go.RowKit Go.Maps
set_option maxRecDepth 100000 in
theorem l01Block_any (a b c : Int) (w : World) (a0 : 0 ≤ a) (a1 : a ≤ 1000) (b0 : 0 ≤ b) (b1 : b ≤ 1000) (c0 : 0 ≤ c) (c1 : c ≤ 1000) : Calls Try.prog 108 #[.int .i64 a, .int .i64 b, .int .i64 c] w (RV (bv (blk3 a b c)) w) := by
  go_enter Try.func108, Try.ntmps108
  go_wp2
  all_goals
    refine bodyPost_ret (v := bv (blk3 a b c)) ?_ rfl ⟨rfl, (Below.refl _ _).alloc (Nat.le_refl _) _⟩
    simp [results, Try.results108, go_sem, bv, blk3]
    omega
end Go.Proofs.Ytlkjacgpjolbdaa

namespace Go.Proofs.Ytlkjacgpjolbdaa
open Go.RowKit Go.Maps
theorem l01Block_is {a b c p q r : Int} (W : World) (a0 : 0 ≤ a) (a1 : a ≤ 1000) (b0 : 0 ≤ b) (b1 : b ≤ 1000) (c0 : 0 ≤ c) (c1 : c ≤ 1000) (hp : p = min (min a b) c) (hr : r = max (max a b) c) (hq : q = a + b + c - p - r) :
    Calls Try.prog 108 #[.int .i64 a, .int .i64 b, .int .i64 c] W (RV (.agg #[.int .i64 p, .int .i64 q, .int .i64 r]) W) := by
  have h := l01Block_any a b c W a0 a1 b0 b1 c0 c1
  rw [blk3_of hp hr hq] at h
  exact h
end Go.Proofs.Ytlkjacgpjolbdaa

namespace Go.Proofs.Ytlkjacgpjolbdaa
open Go.RowKit Go.Maps
def setCode (v : Int) (bs : List Blk) (pts : List Int) : Int := if isSysImpl v bs then (if pts.all (inP v) && ascGo none pts then 0 else 2) else 1
set_option maxRecDepth 100000 in
theorem l01PointsIB_any (v : Int) (s : Value) (bs : List Blk) (t : Value) (ps : List Int) (w : World) (h : SB w s bs) (ht : IB w t ps) :
    Calls Try.prog 124 #[.agg #[.int .i64 v, s], t] w (RV (.int .i64 (pointsCode v bs ps)) w) := by
  obtain ⟨htl, h3⟩ := ht
  rcases h3 with ⟨a1, c1, rfl, rfl⟩ | ⟨b, off, cap, rfl, hlt, hI⟩
  · have hs := h.slice
    have hc := l01Is_any v s bs (w.alloc (.cells #[.int .i64 v, s] 28)) (h.below ((Below.refl _ _).alloc (Nat.le_refl _) _) (Nat.le_refl _))
    clear h htl
    obtain ⟨a0, c0, rfl⟩ := hs
    cases hi : isSysImpl v bs with
    | false =>
      rw [hi] at hc
      have HC := Lib.hid hc
      have hp : pointsCode v bs [] = 1 := by simp [pointsCode, hi]
      rw [hp]
      clear hc hi hp
      go_enter Try.func124, Try.ntmps124
      go_wp2_with (go_at_call 66; refine HC.out.mono ?_; rintro e w1 ⟨rfl, hb1⟩)
      go_ret
      exact RV_of rfl (((Below.refl _ _).alloc (Nat.le_refl _) _).trans (hb1.mono (by simp)))
    | true =>
      rw [hi] at hc
      have HC := Lib.hid hc
      have hp : pointsCode v bs [] = 0 := by simp [pointsCode, hi]
      rw [hp]
      clear hc hi hp
      go_enter Try.func124, Try.ntmps124
      go_wp2_with fail
      refine HC.out.mono ?_
      rintro e w1 ⟨rfl, hb1⟩
      have hbw := ((Below.refl w.heap.size w).alloc (Nat.le_refl _) (.cells #[.int .i64 v, .slice a0 bs.length c0] 28)).trans (hb1.mono (by simp))
      clear hb1
      go_wp2
      refine wp_loop_rounds 1 ?_
      rw [rounds_succ]
      go_wp2
      go_ret
      exact RV_of rfl hbw
  · exact l01Points_any v s bs b off cap ps w h hI hlt htl
set_option maxRecDepth 100000 in
theorem l01Set_any (v : Int) (s : Value) (bs : List Blk) (t : Value) (ps : List Int) (w : World) (h : SB w s bs) (ht : IB w t ps) :
    Calls Try.prog 75 #[.agg #[.int .i64 v, s], t] w (RV (.int .i64 (setCode v bs ps)) w) := by
  have hs := h.slice
  have hc := l01PointsIB_any v s bs t ps (w.alloc (.cells #[.int .i64 v, s] 28)) (h.below ((Below.refl _ _).alloc (Nat.le_refl _) _) (Nat.le_refl _)) (ht.below ((Below.refl _ _).alloc (Nat.le_refl _) _) (Nat.le_refl _))
  have hts : ∃ a c, t = .slice a ps.length c := by rcases ht.2 with ⟨a, c, rfl, rfl⟩ | ⟨b, off, cap, rfl, _⟩ <;> exact ⟨_, _, rfl⟩
  have htl := ht.1
  have HT := Lib.hid ht
  clear h ht
  obtain ⟨a0, c0, rfl⟩ := hs
  obtain ⟨a1, c1, rfl⟩ := hts
  have HCC := Lib.hid (show setCode v bs ps = if pointsCode v bs ps = 0 then (if ascGo none ps then 0 else 2) else pointsCode v bs ps by
    unfold setCode pointsCode
    cases isSysImpl v bs <;> cases ps.all (inP v) <;> cases ascGo none ps <;> rfl)
  obtain ⟨κ, hκ⟩ : ∃ κ, κ = pointsCode v bs ps := ⟨_, rfl⟩
  rw [← hκ] at hc HCC
  have HC := Lib.hid hc
  clear hc hκ
  by_cases e : κ = 0
  · subst e
    have HD := Lib.hid (show setCode v bs ps = if ascGo none ps then 0 else 2 by rw [HCC.out, if_pos rfl])
    clear HCC
    go_enter Try.func75, Try.ntmps75
    go_wp2_with fail
    refine HC.out.mono ?_
    rintro e w1 ⟨rfl, hb1⟩
    have hbw := ((Below.refl w.heap.size w).alloc (Nat.le_refl _) (.cells #[.int .i64 v, .slice a0 bs.length c0] 28)).trans (hb1.mono (by simp))
    have HT1 := Lib.hid (HT.out.below hbw (Nat.le_refl _))
    clear hb1 HC HT
    go_wp2_with fail
    go_loopw [6] (fun i wr => ∃ k : Nat, 1 ≤ k ∧ i = .int .i64 k ∧ (∃ n, wr = w1.drewN n) ∧ Hid (ascGo none ps = ascGo (ps[k - 1]?) (ps.drop k))) (fun i _ => ps.length - (intOf i).toNat)
    case atStart => exact ⟨1, Nat.le_refl _, rfl, ⟨0, rfl⟩, Lib.hid (by cases ps <;> simp [ascGo])⟩
    case round =>
      obtain ⟨k, hk1, rfl, ⟨n, rfl⟩, HE⟩ := hrel
      by_cases hkl : k < ps.length
      · obtain ⟨j, rfl⟩ : ∃ j, k = j + 1 := ⟨k - 1, by omega⟩
        rcases HT1.out.2 with ⟨_, _, _, hnil⟩ | ⟨b, off, cap, hv2, hplt, hpi⟩
        · exfalso; rw [hnil] at hkl; simp at hkl
        simp at hv2
        obtain ⟨rfl, rfl⟩ := hv2
        have ck := hpi (j + 1) hkl
        have cj := hpi j (by omega)
        have hdr : ps.drop (j + 1) = (ps[j + 1]?.getD 0) :: ps.drop (j + 1 + 1) := by rw [List.drop_eq_getElem_cons hkl]; simp [hkl]
        have hkk : ps[j + 1]? = some (ps[j + 1]?.getD 0) := by simp [hkl]
        have hj : ps[j]? = some (ps[j]?.getD 0) := by simp [show j < ps.length by omega]
        obtain ⟨z, hz⟩ : ∃ z, z = ps[j + 1]?.getD 0 := ⟨_, rfl⟩
        obtain ⟨y, hy⟩ : ∃ y, y = ps[j]?.getD 0 := ⟨_, rfl⟩
        rw [← hz] at ck hdr hkk
        rw [← hy] at cj hj
        have he := HE.out
        rw [Nat.add_sub_cancel, hdr, hj] at he
        have HV := Lib.hid (show ascGo none ps = (decide (y < z) && ascGo (some z) (ps.drop (j + 1 + 1))) by rw [he]; rfl)
        have HKK := Lib.hid hkk
        have g0 : (0 : Int) ≤ ((j + 1 : Nat) : Int) := by omega
        have g1 : ((j + 1 : Nat) : Int) < (ps.length : Int) := by omega
        have gi : (0 : Int) < (j : Int) + 1 := by omega
        have gi0 : (0 : Int) ≤ (j : Int) + 1 := by omega
        have gi1 : (j : Int) + 1 < (ps.length : Int) := by omega
        have gj0 : (0 : Int) ≤ (j : Int) := by omega
        have gj1 : (j : Int) < (ps.length : Int) := by omega
        have ej : ((j + 1 : Nat) : Int) - 1 = (j : Int) := by omega
        clear hz hdr hkk hj hy he HE hpi
        by_cases hyz : y < z
        · have q1 : decide (z ≤ y) = false := by simp; omega
          have HW := Lib.hid (show ascGo none ps = ascGo (some z) (ps.drop (j + 1 + 1)) by rw [HV.out]; simp [hyz])
          clear HV
          go_wp2
          go_quiet (fail)
          go_wp2
          go_roundw
          case rel => exact ⟨j + 1 + 1, by omega, by go_num, ⟨_, rfl⟩, Lib.hid (by rw [HW.out, Nat.add_sub_cancel, HKK.out])⟩
          case measure => simp [intOf]; omega
        · have q1 : decide (z ≤ y) = true := by simp; omega
          have q2 : z ≤ y := by omega
          have HW := Lib.hid (show ascGo none ps = false by rw [HV.out]; simp [hyz])
          clear HV hyz
          go_wp2
          go_quiet (fail)
          go_wp2
          go_ret
          exact RV_of (int_eq (by rw [HD.out, HW.out]; rfl)) (below_drewN (below_drewN hbw _) _)
      · have HW := Lib.hid (show ascGo none ps = true by rw [HE.out, List.drop_eq_nil_of_le (by omega), ascGo])
        go_wp2
        go_ret
        exact RV_of (int_eq (by rw [HD.out, HW.out]; rfl)) (below_drewN hbw _)
  · have q1 : (κ != 0) = true := by simpa using e
    have q2 : decide (κ = 0) = false := by simpa using e
    have HD := Lib.hid (show setCode v bs ps = κ by rw [HCC.out, if_neg e])
    clear HCC e
    go_enter Try.func75, Try.ntmps75
    go_wp2_with fail
    refine HC.out.mono ?_
    rintro e w1 ⟨rfl, hb1⟩
    have hbw := ((Below.refl w.heap.size w).alloc (Nat.le_refl _) (.cells #[.int .i64 v, .slice a0 bs.length c0] 28)).trans (hb1.mono (by simp))
    go_wp2
    go_ret
    exact RV_of (int_eq (by rw [HD.out])) hbw
end Go.Proofs.Ytlkjacgpjolbdaa

namespace Go.Proofs.Ytlkjacgpjolbdaa
open Go.RowKit Go.Maps
end Go.Proofs.Ytlkjacgpjolbdaa

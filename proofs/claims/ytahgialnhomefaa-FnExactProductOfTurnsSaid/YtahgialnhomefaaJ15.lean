
/- The model's l09Loop. impl.cycleLengths. CountPointTriples of the model. ProductOfTurns of the program. A list whose first numbers are negated: plain. ProductOfTurns of the model. -/
import Derived.Test.YtahgialnhomefaaJ14
import Derived.Deep.RegionHeld3
namespace Go.Proofs.Ytahgialnhomefaa
open Go.RowKit Go.Maps
theorem wpList_append_intG {w : World} {ops : Array Oper} {rest : List Oper} {o : Oper} {a : Act} {Q : Exit → Act → World → Prop} (hgd : o.guard = none) (s x : Operand)
    (ho : o.op = .call { callee := .builtin .append, args := #[s, x], argTypes := #[38, 38] })
    (base : Nat) (v : Value) (zs : List Int) (hsv : a.eval s = v) (hown : OwnJ w base v zs) (b0 c : Nat) (y : Int) (hx : a.eval x = .slice (some ⟨b0, 0, none⟩) 1 c)
    (c1 : w.cell? ⟨b0, 0, none⟩ = some (.int .i64 y)) (hl : zs.length ≤ 1100000) (hbase : base ≤ w.heap.size)
    (h : ∀ (g cap : Nat) (w' : World), OwnJ w' base (.slice (some ⟨g, 0, none⟩) (zs.length + 1) cap) (zs ++ [y]) → w.grownBy w' v.ownBlock → (v.ownBlock = some g ∨ g = w.heap.size) → wpList Try.prog ops Q rest (a.put o.dst (.slice (some ⟨g, 0, none⟩) (zs.length + 1) cap)) w') : wpList Try.prog ops Q (o :: rest) a w := by
  obtain ⟨i0, hi, hz0, hz1, hz2⟩ := info_parts infoInt64
  refine wpList_append_own_at w hgd s x 38 ho base 2 i0 _ 1 8 Try.underlying38 hi hz0 hz1 hz2 rfl (by decide) v zs.length (zs.map (Value.int .i64)) hsv hown ⟨b0, 0, none⟩ 1 c [.int .i64 y] hx rfl ?_ ?_ (by unfold maxLen; omega) (by omega) hbase ?_
  · intro j u hj
    rw [addr_at, Nat.zero_add]
    match j, hj with
    | 0, hj => simp at hj; rw [← hj]; exact c1
    | j + 1, hj => simp at hj
  · intro u hu
    simp at hu
    rw [hu]
    rfl
  · intro v' w' hown' hg _ hob
    obtain ⟨G, cap, rfl⟩ := row_some hown'
    refine h G cap w' ?_ hg ?_
    · unfold OwnJ
      rw [List.length_append, List.map_append]
      exact hown'
    · rcases hob with e | e
      · exact .inl (by rw [← e]; rfl)
      · exact .inr (by simpa [Value.ownBlock] using e)
theorem loop_row {n : Nat} {bs : List Blk} {k : Nat} (hk : k < n) : (rowT n (prd 0 n bs) k).set k (n : Int) ++ [(k : Int)] = rowT (n + 1) (prd 1 n bs) k := by
  have e : rowT (n + 1) (prd 1 n bs) k = rowT n (prd 1 n bs) k ++ [prd 1 n bs k n] := by simp [rowT, List.range_succ]
  rw [e, show prd 1 n bs k n = (k : Int) by simp [prd]; omega]
  congr 1
  apply List.ext_getElem?
  intro m
  by_cases hm : m < n
  · by_cases hmk : k = m
    · subst hmk
      rw [List.getElem?_set_self (by rw [rowT_len]; exact hm)]
      simp [rowT, hm, prd]
    · rw [List.getElem?_set_ne hmk]
      have h1 : k ≠ n := by omega
      have h2 : m ≠ n := by omega
      simp [rowT, hm, prd, hmk, h1, h2]
  · rw [List.getElem?_eq_none (by rw [List.length_set, rowT_len]; omega), List.getElem?_eq_none (by rw [rowT_len]; omega)]
theorem loop_unit (n : Nat) (bs : List Blk) : numL n ++ [(n : Int)] = rowT (n + 1) (prd 1 n bs) n := by
  rw [← numL_succ]
  apply List.map_congr_left
  intro m hm
  have := List.mem_range.1 hm
  unfold prd
  rw [if_neg (by decide)]
  by_cases h : n = m
  · rw [if_pos h, h]
  · rw [if_neg h, if_pos rfl]
/-- The rows while the loop's rows are made. -/
def rowsLp (n : Nat) (bs : List Blk) (a : Nat) : List (List Int) := (List.range n).map fun k => if k < a then rowT (n + 1) (prd 1 n bs) k else rowT n (prd 0 n bs) k
theorem rowsLp_len (n : Nat) (bs : List Blk) (a : Nat) : (rowsLp n bs a).length = n := by simp [rowsLp]
theorem rowsLp_zero (n : Nat) (bs : List Blk) : rowsTo n (prd 0 n bs) n = rowsLp n bs 0 := by
  apply List.map_congr_left
  intro k _
  rw [if_neg (by omega)]
theorem rowsLp_at {n : Nat} {bs : List Blk} {a : Nat} (h : a < n) : (rowsLp n bs a)[a]?.getD [] = rowT n (prd 0 n bs) a := by simp [rowsLp, h]
theorem rowsLp_next {n : Nat} {bs : List Blk} {a : Nat} (h : a < n) : ((rowsLp n bs a).set a ((rowT n (prd 0 n bs) a).set a (n : Int))).set a ((rowT n (prd 0 n bs) a).set a (n : Int) ++ [(a : Int)]) = rowsLp n bs (a + 1) := by
  rw [loop_row h, List.set_set]
  apply List.ext_getElem?
  intro m
  by_cases hm : m = a
  · subst hm
    rw [List.getElem?_set_self (by rw [rowsLp_len]; exact h)]
    simp [rowsLp, h]
  · rw [List.getElem?_set_ne (fun e => hm e.symm)]
    simp only [rowsLp, List.getElem?_map]
    by_cases hml : m < n
    · rw [List.getElem?_range hml]
      simp only [Option.map_some]
      by_cases h2 : m < a
      · rw [if_pos h2, if_pos (by omega)]
      · rw [if_neg h2, if_neg (by omega)]
    · rw [List.getElem?_eq_none (by rw [List.length_range]; omega)]
      rfl
theorem rowsLp_end (n : Nat) (bs : List Blk) : rowsLp n bs n ++ [rowT (n + 1) (prd 1 n bs) n] = rowsTo (n + 1) (prd 1 n bs) (n + 1) := by
  rw [rowsTo_succ]
  congr 1
  apply List.map_congr_left
  intro k hk
  rw [if_pos (List.mem_range.1 hk)]
/-- A list lies apart from a list of rows. -/
def Dst (t u : Value) (us : List Value) : Prop := ∀ r, t.ownBlock = some r → u.ownBlock ≠ some r ∧ ∀ x ∈ us, x.ownBlock ≠ some r
/-- The rows and the unit's row. -/
structure LoopM (W : World) (lo : Nat) (u : Value) (us : List Value) (Rs : List (List Int)) (t : Value) (zs : List Int) : Prop where
  tab : TabL W lo u us Rs
  own : OwnJ W lo t zs
  dst : Dst t u us
variable {W W' : World} {lo : Nat} {u t : Value} {us : List Value} {Rs : List (List Int)} {zs : List Int}
theorem LoopM.below (h : LoopM W lo u us Rs t zs) (hb : Below W.heap.size W W') : LoopM W' lo u us Rs t zs :=
  ⟨h.tab.below hb, h.own.below hb (Nat.le_refl _), h.dst⟩
theorem LoopM.sst {k g n cap j : Nat} (h : LoopM W lo u us Rs t zs) (hx : us[k]? = some (.slice (some ⟨g, 0, none⟩) n cap)) (hj : j < (Rs[k]?.getD []).length) (y : Int) :
    LoopM (W.setCell ⟨g, j, none⟩ (.int .i64 y)) lo u us (Rs.set k ((Rs[k]?.getD []).set j y)) t zs ∧ W.grownBy (W.setCell ⟨g, j, none⟩ (.int .i64 y)) (some g) := by
  obtain ⟨h1, h2⟩ := h.tab.sst hx hj y
  exact ⟨⟨h1, h.own.apartP h2 (fun r e e2 => by cases e; exact (h.dst g e2).2 _ (List.mem_of_getElem? hx) rfl), h.dst⟩, h2⟩
theorem LoopM.put {k G m c g : Nat} {x : Value} {n cap : Nat} {ys : List Int} (h : LoopM W lo (.slice (some ⟨G, 0, none⟩) m c) us Rs t zs) (hx : us[k]? = some x) (hg : W.grownBy W' x.ownBlock) (ho : OwnJ W' lo (.slice (some ⟨g, 0, none⟩) n cap) ys) (hG : x.ownBlock = some g ∨ W.heap.size ≤ g) :
    LoopM (W'.setCell ⟨G, k, none⟩ (.slice (some ⟨g, 0, none⟩) n cap)) lo (.slice (some ⟨G, 0, none⟩) m c) (us.set k (.slice (some ⟨g, 0, none⟩) n cap)) (Rs.set k ys) t zs ∧ W'.grownBy (W'.setCell ⟨G, k, none⟩ (.slice (some ⟨g, 0, none⟩) n cap)) (some G) := by
  obtain ⟨h1, h2⟩ := h.tab.put hx hg ho hG
  refine ⟨⟨h1, (h.own.apartP hg (fun r e e2 => (h.dst r e2).2 x (List.mem_of_getElem? hx) e)).apartP h2 (fun r e e2 => by cases e; exact (h.dst G e2).1 rfl), fun r e => ⟨(h.dst r e).1, fun z hz => ?_⟩⟩, h2⟩
  obtain ⟨j, hj⟩ := List.mem_iff_getElem?.1 hz
  by_cases hjk : j = k
  · subst hjk
    rw [List.getElem?_set_self (List.getElem?_eq_some_iff.1 hx).1] at hj
    cases hj
    intro e2
    have e2 : g = r := by simpa [Value.ownBlock] using e2
    subst e2
    rcases hG with e3 | e3
    · exact (h.dst g e).2 x (List.mem_of_getElem? hx) e3
    · have := (h.own.blkP g e).2; omega
  · rw [List.getElem?_set_ne (fun e2 => hjk e2.symm)] at hj
    exact (h.dst r e).2 z (List.mem_of_getElem? hj)
theorem LoopM.unit {g n cap : Nat} {ys : List Int} (h : LoopM W lo u us Rs t zs) (hg : W.grownBy W' t.ownBlock) (ho : OwnJ W' lo (.slice (some ⟨g, 0, none⟩) n cap) ys) (hG : t.ownBlock = some g ∨ W.heap.size ≤ g) : LoopM W' lo u us Rs (.slice (some ⟨g, 0, none⟩) n cap) ys := by
  refine ⟨h.tab.kept hg (fun r e => (h.dst r e).1) (fun x hx r e => (h.dst r e).2 x hx), ho, fun r e => ?_⟩
  have e : g = r := by simpa [Value.ownBlock] using e
  subst e
  rcases hG with e3 | e3
  · exact h.dst g e3
  · refine ⟨fun e => ?_, fun x hx e => ?_⟩
    · have := (h.tab.own.blkP g e).2; omega
    · obtain ⟨k, hk⟩ := List.mem_iff_getElem?.1 hx
      have := ((h.tab.row k x hk).blkP g e).2; omega
theorem LoopM.done (h : LoopM W lo u us Rs t zs) {u' : Value} (hg : W.grownBy W' u.ownBlock) (hV : RowsV W' lo u' (us ++ [t])) (hG : ∀ G, u'.ownBlock = some G → u.ownBlock = some G ∨ W.heap.size ≤ G) : TabL W' lo u' (us ++ [t]) (Rs ++ [zs]) :=
  h.tab.snoc h.own (fun r e => (h.dst r e).1) (fun x hx r e => (h.dst r e).2 x hx) hg hV hG
end Go.Proofs.Ytahgialnhomefaa

namespace Go.Proofs.Ytahgialnhomefaa
open Go.RowKit Go.Maps
theorem BoolsAt.belowC {w w' : World} {g n : Nat} {f : Nat → Bool} (h : BoolsAt w g n f) (hb : Below w.heap.size w w') : BoolsAt w' g n f := h.kept (gb_below hb) (by simp)
theorem OwnJ.sliceC {w : World} {base : Nat} {u : Value} {zs : List Int} (h : OwnJ w base u zs) : ∃ a n c, u = .slice a n c := by
  obtain ⟨a, c, h⟩ := h.slice
  exact ⟨a, _, c, h⟩
set_option maxRecDepth 100000 in
set_option maxHeartbeats 4000000 in
theorem cycleLengths_any (n : Nat) (f : Nat → Nat) (t : Value) (w : World) (ht : IB w t ((List.range n).map fun c => (f c : Int))) (hf : ∀ c, c < n → f c < n) (hn : n ≤ 1000) :
    Calls Try.prog 61 #[t] w (fun e w' => ∃ u, e = .returned u ∧ OwnJ w' w.heap.size u (ascL (cyA f n n).2).reverse ∧ Below w.heap.size w w') := by
  have hmk := mkBoolsR n (by omega)
  have HIB := Lib.hid ht
  obtain ⟨ta, tc, htv⟩ := ht.formG
  rw [List.length_map, List.length_range] at htv
  subst htv
  have HF := Lib.hid hf
  have HFL := Lib.hid fun s => fls_le n s
  have HLN := Lib.hid (cyA_len f n)
  clear ht hf
  go_enter Try.func61, Try.ntmps61
  go_wp2
  have hB0 : Below w.heap.size w (w.alloc (.cells (madeCells #[.bool false] n) 4)) := (Below.refl _ _).alloc (Nat.le_refl _) _
  have hM0 := BoolsAt.made w n 4
  obtain ⟨w1, hw1⟩ : ∃ w1, w1 = w.alloc (.cells (madeCells #[.bool false] n) 4) := ⟨_, rfl⟩
  have hz1 : w.heap.size < w1.heap.size := by rw [hw1]; simp
  rw [← hw1] at hB0 hM0 ⊢
  have HB0 := Lib.hid hB0
  have HM0 := Lib.hid hM0
  obtain ⟨S, hS⟩ : ∃ S, S = w.heap.size := ⟨_, rfl⟩
  have HS := Lib.hid hS
  rw [← hS] at HM0 ⊢
  clear hw1 hB0 hM0 hmk hS
  go_loopw [4, 13] (fun o i wr => ∃ k : Nat, k ≤ n ∧ i = .int .i64 k ∧ Below w.heap.size w wr ∧ w1.heap.size ≤ wr.heap.size ∧ BoolsAt wr S n (cyA f n k).1 ∧ OwnJ wr w1.heap.size o (cyA f n k).2 ∧ ∃ a m c, o = .slice a m c) (fun _ i _ => n - (intOf i).toNat)
  case atStart => exact ⟨0, Nat.zero_le _, rfl, HB0.out, Nat.le_refl _, HM0.out, OwnJ.nil _ _, _, _, _, rfl⟩
  case round =>
    obtain ⟨k, hk, rfl, hB, hz, hM, hO, oa, om, oc, rfl⟩ := hrel
    have HB := Lib.hid hB
    have HM := Lib.hid hM
    have HO := Lib.hid hO
    clear hB hM hO
    by_cases hkl : k < n
    · obtain ⟨RES, hRES⟩ : ∃ RES, RES = cyGo f (n + 1) (cyA f n k).1 k 0 := ⟨_, rfl⟩
      have HN1 := Lib.hid (show (cyA f n (k + 1)).1 = RES.1 by rw [hRES]; rfl)
      have HN2 := Lib.hid (show (cyA f n (k + 1)).2 = if 0 < RES.2 then (cyA f n k).2 ++ [(RES.2 : Int)] else (cyA f n k).2 by rw [hRES]; rfl)
      have HRS := Lib.hid hRES.symm
      clear hRES
      go_wp2
      go_loopw [6, 7] (fun l i wr => ∃ (a len : Nat) (s : Nat → Bool), i = .int .i64 a ∧ l = .int .i64 len ∧ a < n ∧ len + fls n s ≤ n ∧ Hid (cyGo f (n + 1 - len) s a len = RES) ∧ Below w.heap.size w wr ∧ w1.heap.size ≤ wr.heap.size ∧ BoolsAt wr S n s ∧ OwnJ wr w1.heap.size (.slice oa om oc) (cyA f n k).2) (fun l _ _ => n - (intOf l).toNat)
      case atStart => exact ⟨k, 0, _, rfl, rfl, hkl, by have := HFL.out (cyA f n k).1; omega, HRS, HB.out, hz, HM.out, HO.out⟩
      case round =>
        obtain ⟨a, len, s, rfl, rfl, han, hlen, hgo, hB, hz2, hM, hO⟩ := hrel
        have HB2 := Lib.hid hB
        have HO2 := Lib.hid hO
        have a0 : (0 : Int) ≤ (a : Int) := by omega
        have a1 : (a : Int) < (n : Int) := by omega
        have m1 := hM.cell a han
        have m2 := hM.free a
        have HM2 := Lib.hid hM
        cases hs : s a with
        | true =>
          have hR : RES = (s, len) := by rw [← hgo.out, cyGo_stop (by omega) hs]
          rw [hs] at m1
          have HR1 := Lib.hid (show RES.1 = s by rw [hR])
          have HR2 := Lib.hid (show RES.2 = len by rw [hR])
          rw [HR1.out] at HN1
          rw [HR2.out] at HN2
          have hb := HLN.out k
          clear hB hO hM hgo hR hs
          by_cases hl0 : 0 < len
          · have HS2 := Lib.hid (show (cyA f n (k + 1)).2 = (cyA f n k).2 ++ [(len : Int)] by rw [HN2.out, if_pos hl0])
            have l0 : decide ((0 : Int) < (len : Int)) = true := by simp; omega
            have hll : (cyA f n k).2.length ≤ 1100000 := by omega
            obtain ⟨L, hL⟩ : ∃ L, L = (cyA f n k).2 := ⟨_, rfl⟩
            rw [← hL] at HS2 HO2 hll
            clear hL
            go_wp2_with (at_builtin; refine wpList_append_intG rfl _ _ rfl w1.heap.size (.slice oa om oc) L rfl (HO2.out.below ((Below.refl _ _).alloc (Nat.le_refl _) _) (Nat.le_refl _)) _ _ (len : Int) rfl (by simp [go_sem]) hll (by simp; omega) ?_; intro g' cap' w4 hO4 hg4 _)
            have hrow := HO2.out.row
            have hgo2 := gb_trans (World.grownBy_alloc _ _ none) hg4
            have hM4 := HM2.out.kept hgo2 (fun e => by have := hrow S e.symm; have := HS.out; omega)
            have hB4 := HB2.out.grown hgo2 (by omega) (fun j e => by have := hrow j e; omega)
            have hz4 := hgo2.size
            clear hg4 hgo2
            go_roundw
            case rel => first
              | exact ⟨k + 1, by omega, by go_num, hB4, by omega, by rw [HN1.out]; exact hM4, by rw [HS2.out]; exact hO4, _, _, _, rfl⟩
              | ((repeat apply Exists.intro); exact ⟨⟨k + 1, by omega, by go_num, hB4, by omega, by rw [HN1.out]; exact hM4, by rw [HS2.out]; exact hO4, _, _, _, rfl⟩, rfl⟩)
            case measure => simp [intOf]; omega
          · have HS2 := Lib.hid (show (cyA f n (k + 1)).2 = (cyA f n k).2 by rw [HN2.out, if_neg hl0])
            have l0 : decide ((0 : Int) < (len : Int)) = false := by simp; omega
            go_wp2
            go_roundw
            case rel => exact ⟨k + 1, by omega, by go_num, HB2.out, hz2, by rw [HN1.out]; exact HM2.out, by rw [HS2.out]; exact HO2.out, _, _, _, rfl⟩
            case measure => simp [intOf]; omega
        | false =>
          rw [hs] at m1
          have hfl := fls_sen han hs
          have HG := Lib.hid (show cyGo f (n + 1 - (len + 1)) (sen s a) (f a) (len + 1) = RES by
            rw [← hgo.out, cyGo_step (k := n + 1 - len) (by omega) hs]
            congr 1)
          obtain ⟨b, off, hta, hblt, hcell⟩ := HIB.out.get (k := a) (by simp; exact han)
          subst hta
          have hfa : ((List.range n).map fun c => (f c : Int))[a]?.getD 0 = (f a : Int) := by simp [han]
          rw [hfa] at hcell
          have HFA := Lib.hid (HF.out a han)
          obtain ⟨y, hy⟩ : ∃ y, y = f a := ⟨_, rfl⟩
          rw [← hy] at hcell HG HFA
          have hset := HM2.out.set (i := a) han
          have hst := only_setCell (only_refl wr (some S)) (p := ⟨S, a, none⟩) rfl (.bool true)
          have hO3 := HO2.out.kept hst (fun r e => by cases e; have := HS.out; omega)
          have hB3 := (HB2.out).setCell (p := ⟨S, a, none⟩) (by have := HS.out; show w.heap.size ≤ S; omega) (.bool true)
          have hbS : b ≠ S := by have := HS.out; omega
          have hcell2 : (wr.setCell ⟨S, a, none⟩ (.bool true)).cell? ⟨b, off + a, none⟩ = some (.int .i64 (y : Int)) := by
            rw [World.cell?_setCell_other _ _ _ _ (by simp <;> omega)]
            exact (HB2.out.cell (p := ⟨b, off + a, none⟩) hblt).trans hcell
          have HSET := Lib.hid hset
          have HO3 := Lib.hid hO3
          have HB3 := Lib.hid hB3
          have wl : IntKind.i64.wrap ((len : Int) + 1) = (len : Int) + 1 := IntWalk.i64_in _ (by omega)
          have hz3 : w1.heap.size ≤ (wr.setCell ⟨S, a, none⟩ (.bool true)).heap.size := by simp [World.setCell]; omega
          clear hB hO hM hgo hs hset hst hO3 hB3 hy hfa hcell
          go_wp2
          go_roundw
          case rel => exact ⟨y, len + 1, sen s a, rfl, by go_num, HFA.out, by omega, HG, HB3.out, hz3, HSET.out, HO3.out⟩
          case measure => simp [intOf]; omega
    · have e : k = n := by omega
      rw [e] at HO
      have hll : (cyA f n n).2.length ≤ 3300000 := by have := HLN.out n; omega
      obtain ⟨L, hL⟩ : ∃ L, L = (cyA f n n).2 := ⟨_, rfl⟩
      rw [← hL] at HO hll
      have HL := Lib.hid hL
      have HSO := Lib.hid (sortJ_any w1.heap.size _ L wr HO.out hll)
      clear hL HM e
      go_wp2_with fail
      refine HSO.out.mono ?_
      rintro e w4 ⟨rfl, hg4, hO4⟩
      have HRV := Lib.hid (revJ_any w1.heap.size _ (ascL L) w4 hO4 (by rw [ascL_len]; exact hll))
      have hB4 := HB.out.grown hg4 HB.out.size (fun r e => by have := HO.out.row r e; omega)
      have HB4 := Lib.hid hB4
      have hrow4 := hO4.row
      clear hg4 hO4 hB4
      go_wp2_with fail
      refine HRV.out.mono ?_
      rintro e w5 ⟨rfl, hg5, hO5⟩
      have hB5 := HB4.out.grown hg5 HB4.out.size (fun r e => by have := hrow4 r e; omega)
      have HO5 := Lib.hid hO5
      have HB5 := Lib.hid hB5
      clear hg5 hO5 hB5
      go_wp2
      go_ret
      exact ⟨_, rfl, by rw [← HL.out]; exact ownsRow_base HO5.out (by omega), HB5.out⟩
end Go.Proofs.Ytahgialnhomefaa

namespace Go.Proofs.Ytahgialnhomefaa
open Go.RowKit Go.Maps
set_option maxRecDepth 100000 in
set_option maxHeartbeats 1000000 in
theorem specCountPointTriples_any (v : Int) (s : Value) (bs : List Blk) (w : World) (h : SB w s bs) :
    Calls Try.prog 23 #[.agg #[.int .i64 v, s]] w (RV (asV 0 v bs) w) := by
  have hs := h.slice
  have hbA : Below w.heap.size w (w.alloc (.cells #[.int .i64 v, s] 30)) := (Below.refl _ _).alloc (Nat.le_refl _) _
  have HFC := Lib.hid (l03Whole_any v s bs _ (h.below hbA (Nat.le_refl _)))
  by_cases hc : fullC v bs = 0
  · obtain ⟨hi, hf⟩ := fullC_zero hc
    obtain ⟨hv3, hv15, _⟩ := sys_size hi
    obtain ⟨n, rfl⟩ : ∃ n : Nat, v = (n : Int) := ⟨v.toNat, by omega⟩
    have HV := Lib.hid (show asV 0 (n : Int) bs = .tuple #[.int .i64 (cntA (prd 0 n bs) n n : Int), .int .i64 0] by
      unfold asV asF
      rw [if_pos hc]
      rfl)
    rw [HV.out]
    rw [hc] at HFC
    have HPT := Lib.hid fun W (hb : Below w.heap.size w W) => l09Table_any n s bs W (h.below hb (Nat.le_refl _)) hi hf
    have HR := Lib.hid (prd_in (.inl rfl) hi hf)
    rw [Nat.add_zero] at HR
    obtain ⟨R, hRR⟩ : ∃ R, R = prd 0 n bs := ⟨_, rfl⟩
    rw [← hRR] at HPT HR ⊢
    have hn0 : 0 < n := by omega
    have hn16 : n ≤ 16 := by omega
    clear h hc hi hf hRR hv3 hv15 HV
    obtain ⟨a0, c0, rfl⟩ := hs
    go_enter Try.func23, Try.ntmps23
    go_wp2_with fail
    refine HFC.out.mono ?_
    rintro e w1 ⟨rfl, hb1⟩
    have hB1 := below_new hb1
    have d0 := cell_new hb1 0 rfl
    have d1 := cell_new hb1 1 rfl
    clear hb1 hbA HFC
    go_wp2_with fail
    refine (HPT.out _ hB1).mono ?_
    rintro e w2 ⟨u, us, rfl, hT, hb2⟩
    have hB2 := hB1.trans (hb2.mono hB1.size)
    obtain ⟨G, c, gs, caps, rfl, _, hS⟩ := l09Tab_ssr hT hn0 (by omega)
    have HTR := Lib.hid (l09Triples_any G _ gs caps n c R w2 hS HR.out hn16)
    clear hb2 hT hS d0 d1
    go_wp2_with fail
    refine HTR.out.mono ?_
    rintro e w3 ⟨rfl, hb3⟩
    have hB3 := hB2.trans (hb3.mono hB2.size)
    clear hb3
    go_wp2
    go_ret2
    exact RV_of rfl hB3
  · have HV := Lib.hid (show asV 0 v bs = .tuple #[.int .i64 0, .int .i64 (fullC v bs)] by
      unfold asV asF
      rw [if_neg hc])
    rw [HV.out]
    obtain ⟨μ, hμ⟩ : ∃ μ, μ = fullC v bs := ⟨_, rfl⟩
    rw [← hμ] at hc HFC ⊢
    have q1 : (μ != 0) = true := by simpa using hc
    clear h hμ hc HV
    obtain ⟨a0, c0, rfl⟩ := hs
    go_enter Try.func23, Try.ntmps23
    go_wp2_with fail
    refine HFC.out.mono ?_
    rintro e w1 ⟨rfl, hb1⟩
    have hB1 := below_new hb1
    clear hb1 hbA
    go_wp2
    go_ret2
    exact RV_of rfl hB1
end Go.Proofs.Ytahgialnhomefaa

namespace Go.Proofs.Ytahgialnhomefaa
open Go.RowKit Go.Maps
def tmap (n : Nat) (bs : List Blk) (a b c : Nat) : Nat := (prd 0 n bs b (prd 0 n bs a c).toNat).toNat
def potF (v : Int) (bs : List Blk) (a b : Int) : List Int × Int := if pcode 0 v bs [a, b] = 0 then ((ascL (cyA (tmap v.toNat bs a.toNat b.toNat) v.toNat v.toNat).2).reverse, 0) else ([], pcode 0 v bs [a, b])
theorem potF_len (v : Int) (bs : List Blk) (a b : Int) : (potF v bs a b).1.length ≤ 15 := by
  unfold potF
  split
  · rename_i h
    have := pcode_v h
    have := cyA_len (tmap v.toNat bs a.toNat b.toNat) v.toNat v.toNat
    simp only [List.length_reverse, ascL_len]
    omega
  · simp
theorem tmap_in {n : Nat} {bs : List Blk} {a b : Nat} (hR : InT n (prd 0 n bs)) (ha : a < n) (hb : b < n) : ∀ c, c < n → tmap n bs a b c < n := fun c hc => by
  unfold tmap
  have h1 := hR a c ha hc
  have h2 := hR b (prd 0 n bs a c).toNat hb (by omega)
  omega
/-- The cells that the map reads at a place. -/
theorem turn_cells {w : World} {lo G : Nat} {gs caps : Nat → Nat} {n : Nat} {bs : List Blk} (h : SSR w lo G gs caps n (rowT n (prd 0 n bs))) (hR : InT n (prd 0 n bs)) {a b c : Nat} (ha : a < n) (hb : b < n) (hc : c < n) :
    ∃ x : Nat, x < n ∧ w.cell? ⟨G, a, none⟩ = some (.slice (some ⟨gs a, 0, none⟩) n (caps a)) ∧ w.cell? ⟨G, b, none⟩ = some (.slice (some ⟨gs b, 0, none⟩) n (caps b)) ∧ w.cell? ⟨gs a, c, none⟩ = some (.int .i64 (x : Int)) ∧ w.cell? ⟨gs b, x, none⟩ = some (.int .i64 (tmap n bs a b c : Int)) := by
  have h1 := hR a c ha hc
  obtain ⟨x, hx⟩ : ∃ x : Nat, prd 0 n bs a c = (x : Int) := ⟨(prd 0 n bs a c).toNat, by omega⟩
  have hxn : x < n := by omega
  have h2 := hR b x hb hxn
  obtain ⟨k1, k2⟩ := h.get ha hc
  obtain ⟨k3, k4⟩ := h.get hb hxn
  rw [hx] at k2
  have e : (tmap n bs a b c : Int) = prd 0 n bs b x := by
    unfold tmap
    rw [hx]
    simp only [Int.toNat_natCast]
    omega
  exact ⟨x, hxn, k1, k3, k2, by rw [e]; exact k4⟩
def imgs (n : Nat) (bs : List Blk) (a b k : Nat) : List Int := (List.range k).map fun c => (tmap n bs a b c : Int)
theorem imgs_succ (n : Nat) (bs : List Blk) (a b k : Nat) : imgs n bs a b (k + 1) = imgs n bs a b k ++ [(tmap n bs a b k : Int)] := by simp [imgs, List.range_succ]
theorem imgs_len (n : Nat) (bs : List Blk) (a b k : Nat) : (imgs n bs a b k).length = k := by simp [imgs]
set_option maxRecDepth 100000 in
set_option maxHeartbeats 4000000 in
theorem ProductOfTurns_any (v : Int) (s : Value) (bs : List Blk) (a b : Int) (w : World) (h : SB w s bs) :
    Calls Try.prog 34 #[.agg #[.int .i64 v, s], .int .i64 a, .int .i64 b] w (RJ (potF v bs a b) w) := by
  have hs := h.slice
  have HPC := Lib.hid fun t W (hb : Below w.heap.size w W) ht => productCode_any 0 (.inl rfl) v s bs t [a, b] W (h.below hb (Nat.le_refl _)) ht
  by_cases hc : pcode 0 v bs [a, b] = 0
  · obtain ⟨hi, hf, hz⟩ := pcode_zero hc
    obtain ⟨hv3, hv15, _⟩ := sys_size hi
    obtain ⟨n, rfl⟩ : ∃ n : Nat, v = (n : Int) := ⟨v.toNat, by omega⟩
    have ha := hz a (by simp)
    have hb := hz b (by simp)
    obtain ⟨p, rfl⟩ : ∃ p : Nat, a = (p : Int) := ⟨a.toNat, by omega⟩
    obtain ⟨q, rfl⟩ : ∃ q : Nat, b = (q : Int) := ⟨b.toNat, by omega⟩
    have HV := Lib.hid (show potF (n : Int) bs (p : Int) (q : Int) = ((ascL (cyA (tmap n bs p q) n n).2).reverse, 0) by
      unfold potF
      rw [if_pos hc]
      rfl)
    rw [HV.out]
    rw [hc] at HPC
    have HPT := Lib.hid fun W (hb : Below w.heap.size w W) => productTable_any 0 (.inl rfl) n s bs W (h.below hb (Nat.le_refl _)) hi
    rw [Nat.add_zero] at HPT
    have hin := prd_in (.inl rfl) hi hf
    rw [Nat.add_zero] at hin
    have HR := Lib.hid hin
    have hp1 : p < n := by omega
    have hq1 : q < n := by omega
    have g0 : (0 : Int) ≤ (p : Int) := by omega
    have g1 : (p : Int) < (n : Int) := by omega
    have g2 : (0 : Int) ≤ (q : Int) := by omega
    have g3 : (q : Int) < (n : Int) := by omega
    have HTI := Lib.hid (tmap_in hin hp1 hq1)
    clear h hc hi hf hz ha hb hv3 HV hin
    obtain ⟨a0, c0, rfl⟩ := hs
    have HPX := Lib.hid (HPC.out _ ((w.alloc (.cells #[.int .i64 (n : Int), .slice a0 bs.length c0] 30)).alloc (.cells #[.int .i64 (p : Int), .int .i64 (q : Int)] 2)) (((Below.refl _ _).alloc (Nat.le_refl _) _).alloc (by simp) _) (lit_ib2 (w.alloc (.cells #[.int .i64 (n : Int), .slice a0 bs.length c0] 30)) p q))
    rw [show ∀ o, (w.alloc o).heap.size = w.heap.size + 1 from fun o => by simp] at HPX
    clear HPC
    go_enter Try.func34, Try.ntmps34
    go_wp2_with fail
    refine HPX.out.mono ?_
    rintro e w1 ⟨rfl, hb1⟩
    have hB1 : Below w.heap.size w w1 := (((Below.refl _ _).alloc (Nat.le_refl _) _).alloc (by simp) _).trans (hb1.mono (by simp <;> omega))
    have d0 : w1.cell? ⟨w.heap.size, 0, none⟩ = some (.int .i64 (n : Int)) := (hb1.cell (p := ⟨w.heap.size, 0, none⟩) (by simp <;> omega)).trans (by simp [go_sem])
    have d1 : w1.cell? ⟨w.heap.size, 1, none⟩ = some (.slice a0 bs.length c0) := (hb1.cell (p := ⟨w.heap.size, 1, none⟩) (by simp <;> omega)).trans (by simp [go_sem])
    clear hb1
    go_wp2_with fail
    refine (HPT.out _ hB1).mono ?_
    rintro e w2 ⟨G, gs, caps, rfl, _, hb2, hS⟩
    have HB2 := Lib.hid (hB1.trans (hb2.mono hB1.size))
    have e1 := hS.cell p hp1
    rw [rowT_len] at e1
    have HS := Lib.hid hS
    clear hb2 hB1 hS d0 d1
    go_wp2
    clear e1
    go_loopw [10, 28] (fun o i wr => ∃ k : Nat, k ≤ n ∧ i = .int .i64 k ∧ Below w2.heap.size w2 wr ∧ OwnJ wr w2.heap.size o (imgs n bs p q k) ∧ ∃ a m c, o = .slice a m c) (fun _ i _ => n - (intOf i).toNat)
    case atStart => exact ⟨0, Nat.zero_le _, rfl, Below.refl _ _, OwnJ.nil _ _, _, _, _, rfl⟩
    case round =>
      obtain ⟨k, hk, rfl, hB, hO, oa, om, oc, rfl⟩ := hrel
      have HB := Lib.hid hB
      have HO := Lib.hid hO
      have hz := hB.size
      by_cases hkl : k < n
      · obtain ⟨x, hxn, k1, k2, k3, k4⟩ := turn_cells (HS.out.below hB (Nat.le_refl _)) HR.out hp1 hq1 hkl
        have HN := Lib.hid (imgs_succ n bs p q k)
        have hll : (imgs n bs p q k).length ≤ 1100000 := by rw [imgs_len]; omega
        obtain ⟨y, hy⟩ : ∃ y, y = tmap n bs p q k := ⟨_, rfl⟩
        rw [← hy] at k4 HN
        obtain ⟨L, hL⟩ : ∃ L, L = imgs n bs p q k := ⟨_, rfl⟩
        rw [← hL] at HN HO hll
        have c0' : (0 : Int) ≤ (k : Int) := by omega
        have c1' : (k : Int) < (n : Int) := by omega
        have x0 : (0 : Int) ≤ (x : Int) := by omega
        have x1 : (x : Int) < (n : Int) := by omega
        clear hB hO hy hL
        go_wp2_with (at_builtin; refine wpList_append_int rfl _ _ rfl w2.heap.size (.slice oa om oc) L rfl (HO.out.below ((Below.refl _ _).alloc (Nat.le_refl _) _) (Nat.le_refl _)) _ _ (y : Int) rfl (by simp [go_sem]) hll (by simp; omega) ?_; intro g' cap' w4 hO4 hg4)
        have hrow := HO.out.row
        have hgo := gb_trans (World.grownBy_alloc _ _ none) hg4
        have hB4 := HB.out.grown hgo hz (fun j e => hrow j e)
        clear hg4 hgo
        go_roundw
        case rel => first
          | exact ⟨k + 1, by omega, by go_num, hB4, by rw [HN.out]; exact hO4, _, _, _, rfl⟩
          | ((repeat apply Exists.intro); exact ⟨⟨k + 1, by omega, by go_num, hB4, by rw [HN.out]; exact hO4, _, _, _, rfl⟩, rfl⟩)
        case measure => simp [intOf]; omega
      · have e : k = n := by omega
        rw [e] at HO
        have hnb : n ≤ 1000 := by omega
        have HCL := Lib.hid (cycleLengths_any n (tmap n bs p q) _ wr (HO.out.ib (by rw [imgs_len]; omega)) HTI.out hnb)
        clear hB hO e
        go_wp2_with fail
        refine HCL.out.mono ?_
        rintro e w4 ⟨u, rfl, hO4, hb4⟩
        have hB4 := HB2.out.trans ((HB.out.trans (hb4.mono hz)).mono HB2.out.size)
        have hz2 := HB2.out.size
        have HO4 := Lib.hid hO4
        clear hb4 hO4
        go_wp2
        go_ret2
        exact ⟨_, rfl, ownsRow_base HO4.out (by omega), hB4⟩
  · have HV := Lib.hid (show potF v bs a b = ([], pcode 0 v bs [a, b]) by
      unfold potF
      rw [if_neg hc])
    rw [HV.out]
    obtain ⟨μ, hμ⟩ : ∃ μ, μ = pcode 0 v bs [a, b] := ⟨_, rfl⟩
    rw [← hμ] at hc HPC ⊢
    have q1 : (μ != 0) = true := by simpa using hc
    clear h hμ hc HV
    obtain ⟨a0, c0, rfl⟩ := hs
    have HPX := Lib.hid (HPC.out _ ((w.alloc (.cells #[.int .i64 v, .slice a0 bs.length c0] 30)).alloc (.cells #[.int .i64 a, .int .i64 b] 2)) (((Below.refl _ _).alloc (Nat.le_refl _) _).alloc (by simp) _) (lit_ib2 (w.alloc (.cells #[.int .i64 v, .slice a0 bs.length c0] 30)) a b))
    rw [show ∀ o, (w.alloc o).heap.size = w.heap.size + 1 from fun o => by simp] at HPX
    clear HPC
    go_enter Try.func34, Try.ntmps34
    go_wp2_with fail
    refine HPX.out.mono ?_
    rintro e w1 ⟨rfl, hb1⟩
    have hB1 : Below w.heap.size w w1 := (((Below.refl _ _).alloc (Nat.le_refl _) _).alloc (by simp) _).trans (hb1.mono (by simp <;> omega))
    clear hb1
    go_wp2
    go_ret2
    exact ⟨_, rfl, OwnJ.nil _ _, hB1⟩
end Go.Proofs.Ytahgialnhomefaa

namespace Go.Proofs.Ytahgialnhomefaa
def negL (l : List Int) : List Int := l.map fun x => -x
def mixL (l : List Int) (k : Nat) : List Int := negL (l.take k) ++ l.drop k
theorem negL_len (l : List Int) : (negL l).length = l.length := by simp [negL]
theorem mixL_len (l : List Int) (k : Nat) : (mixL l k).length = l.length := by
  unfold mixL
  rw [List.length_append, negL_len, List.length_take, List.length_drop]
  omega
theorem mixL_at {l : List Int} {k : Nat} (h : k < l.length) : (mixL l k)[k]?.getD 0 = l[k]?.getD 0 := by
  have e : (negL (l.take k)).length = k := by rw [negL_len, List.length_take]; omega
  unfold mixL
  rw [List.getElem?_append_right (by omega), e, Nat.sub_self, List.getElem?_drop, Nat.add_zero]
theorem mixL_set {l : List Int} {k : Nat} (h : k < l.length) : (mixL l k).set k (-(l[k]?.getD 0)) = mixL l (k + 1) := by
  have e : (negL (l.take k)).length = k := by rw [negL_len, List.length_take]; omega
  unfold mixL
  rw [List.set_append_right _ _ (by omega), e, Nat.sub_self, List.drop_eq_getElem_cons h, List.set_cons_zero, List.take_add_one, List.getElem?_eq_getElem h]
  unfold negL
  rw [List.map_append, List.append_assoc]
  rfl
theorem mixL_end (l : List Int) : mixL l l.length = negL l := by
  unfold mixL
  rw [List.take_length, List.drop_length, List.append_nil]
end Go.Proofs.Ytahgialnhomefaa

namespace Go.Proofs.Ytahgialnhomefaa
open Go.RowKit Go.Maps
/-- The table, what was met, and the lengths. -/
structure PotM (W : World) (lo G : Nat) (gs caps : Nat → Nat) (n : Nat) (F : Nat → List Int) (S : Nat) (s : Nat → Bool) (o : Value) (L : List Int) : Prop where
  ssr : SSR W lo G gs caps n F
  met : BoolsAt W S n s
  own : OwnJ W lo o L
  sg : S ≠ G
  sr : ∀ k, k < n → gs k ≠ S
  os : o.ownBlock ≠ some S
  og : o.ownBlock ≠ some G
  orr : ∀ k, k < n → o.ownBlock ≠ some (gs k)
  slo : lo ≤ S
variable {W W' : World} {lo G : Nat} {gs caps : Nat → Nat} {n : Nat} {F : Nat → List Int} {S : Nat} {s : Nat → Bool} {o : Value} {L : List Int}
theorem PotM.below (h : PotM W lo G gs caps n F S s o L) (hb : Below W.heap.size W W') : PotM W' lo G gs caps n F S s o L :=
  ⟨h.ssr.below hb (Nat.le_refl _), h.met.belowC hb, h.own.below hb (Nat.le_refl _), h.sg, h.sr, h.os, h.og, h.orr, h.slo⟩
theorem PotM.set (h : PotM W lo G gs caps n F S s o L) {a : Nat} (ha : a < n) : PotM (W.setCell ⟨S, a, none⟩ (.bool true)) lo G gs caps n F S (sen s a) o L := by
  have hst := only_setCell (only_refl W (some S)) (p := ⟨S, a, none⟩) rfl (.bool true)
  exact ⟨h.ssr.kept hst (by simpa using h.sg.symm) (fun k hk => by simpa using h.sr k hk), h.met.set ha, h.own.apartP hst (fun r e => by cases e; exact h.os), h.sg, h.sr, h.os, h.og, h.orr, h.slo⟩
theorem PotM.app (h : PotM W lo G gs caps n F S s o L) (hg : W.grownBy W' o.ownBlock) {g m c : Nat} {L' : List Int} (ho : OwnJ W' lo (.slice (some ⟨g, 0, none⟩) m c) L') (hG : o.ownBlock = some g ∨ W.heap.size ≤ g) : PotM W' lo G gs caps n F S s (.slice (some ⟨g, 0, none⟩) m c) L' := by
  refine ⟨h.ssr.kept hg (fun e => h.og e.symm) (fun k hk e => h.orr k hk e.symm), h.met.kept hg (fun e => h.os e.symm), ho, h.sg, h.sr, fun e => ?_, fun e => ?_, fun k hk e => ?_, h.slo⟩
  · have e : g = S := by simpa [Value.ownBlock] using e
    rcases hG with h1 | h1
    · exact h.os (e ▸ h1)
    · have := h.met.lt; omega
  · have e : g = G := by simpa [Value.ownBlock] using e
    rcases hG with h1 | h1
    · exact h.og (e ▸ h1)
    · have := h.ssr.lt; omega
  · have e : g = gs k := by simpa [Value.ownBlock] using e
    rcases hG with h1 | h1
    · exact h.orr k hk (e ▸ h1)
    · have := (h.ssr.row k hk).lt; omega
theorem cyGo_le (f : Nat → Nat) : ∀ (k : Nat) (s : Nat → Bool) (a len : Nat), (cyGo f k s a len).2 ≤ len + k
  | 0, _, _, _ => Nat.le_refl _
  | k + 1, s, a, len => by
    unfold cyGo
    split
    · show len ≤ _; omega
    · have := cyGo_le f k (sen s a) (f a) (len + 1)
      omega
theorem cyA_small (f : Nat → Nat) (n : Nat) : ∀ k, ∀ z ∈ (cyA f n k).2, 0 ≤ z ∧ z ≤ (n : Int) + 1
  | 0 => fun z h => by simp [cyA] at h
  | k + 1 => fun z h => by
    rw [show (cyA f n (k + 1)).2 = if 0 < (cyGo f (n + 1) (cyA f n k).1 k 0).2 then (cyA f n k).2 ++ [((cyGo f (n + 1) (cyA f n k).1 k 0).2 : Int)] else (cyA f n k).2 from rfl] at h
    have h2 := cyGo_le f (n + 1) (cyA f n k).1 k 0
    split at h
    · rcases List.mem_append.1 h with h | h
      · exact cyA_small f n k z h
      · rw [List.mem_singleton] at h; rw [h]; omega
    · exact cyA_small f n k z h
/-- The memory behind the region that makes the three, in any order. -/
theorem PotM.of {Wc w2 W : World} {u : Value} {us : List Value} {P : Nat → Nat → Int} {O : Nat} (hT : TabL w2 Wc.heap.size u us (rowsTo n P n)) (h3 : 0 < n) (h15 : n ≤ 1000) (hlo : lo ≤ Wc.heap.size) (hb : Below w2.heap.size w2 W)
    (hm : BoolsAt W S n (fun _ => false)) (ho : OwnJ W lo (.slice (some ⟨O, 0, none⟩) 0 0) []) (hS : S < Wc.heap.size ∨ w2.heap.size ≤ S) (hO : O < Wc.heap.size ∨ w2.heap.size ≤ O) (hSO : O ≠ S) (hSl : lo ≤ S) :
    ∃ G c gs caps, u = .slice (some ⟨G, 0, none⟩) n c ∧ PotM W lo G gs caps n (rowT n P) S (fun _ => false) (.slice (some ⟨O, 0, none⟩) 0 0) [] := by
  obtain ⟨G, c, gs, caps, hu, hG, hS2⟩ := l09Tab_ssr hT h3 h15
  have hGl := hS2.lt
  refine ⟨G, c, gs, caps, hu, ⟨?_, hm, ho, fun e => by omega, fun k hk e => ?_, fun e => ?_, fun e => ?_, fun k hk e => ?_, hSl⟩⟩
  · have := hS2.below hb (Nat.le_refl _)
    exact ⟨this.cell, this.row, this.ne, this.inc, fun k hk => by have := this.low k hk; omega, this.lt⟩
  · have := (hS2.row k hk).lt; have := hS2.low k hk; omega
  · have e : O = S := by simpa [Value.ownBlock] using e
    exact hSO e
  · have e : O = G := by simpa [Value.ownBlock] using e
    omega
  · have e : O = gs k := by simpa [Value.ownBlock] using e
    have := (hS2.row k hk).lt; have := hS2.low k hk; omega
theorem lit0 (W : World) {base : Nat} (hb : base ≤ W.heap.size) : OwnJ (W.alloc (.cells #[] 2)) base (.slice (some ⟨W.heap.size, 0, none⟩) 0 0) [] := OwnJ.new0 W hb
set_option maxRecDepth 100000 in
set_option maxHeartbeats 16000000 in
theorem specProductOfTurns_any (v : Int) (s : Value) (bs : List Blk) (a b : Int) (w : World) (h : SB w s bs) :
    Calls Try.prog 33 #[.agg #[.int .i64 v, s], .int .i64 a, .int .i64 b] w (RJ (potF v bs a b) w) := by
  have hs := h.slice
  have hc0 : ptsN v v bs [a, b] = pcode 0 v bs [a, b] := by rw [pcode_ptsN, show v + ((0 : Nat) : Int) = v by omega]
  have HPC := Lib.hid fun t W (hb : Below w.heap.size w W) ht => l09Points_any v v s bs t [a, b] W (h.below hb (Nat.le_refl _)) ht (fun hi => by have := sys_size hi; omega)
  rw [hc0] at HPC
  clear hc0
  by_cases hc : pcode 0 v bs [a, b] = 0
  · obtain ⟨hi, hf, hz⟩ := pcode_zero hc
    obtain ⟨hv3, hv15, _⟩ := sys_size hi
    obtain ⟨n, rfl⟩ : ∃ n : Nat, v = (n : Int) := ⟨v.toNat, by omega⟩
    have ha := hz a (by simp)
    have hb := hz b (by simp)
    obtain ⟨p, rfl⟩ : ∃ p : Nat, a = (p : Int) := ⟨a.toNat, by omega⟩
    obtain ⟨q, rfl⟩ : ∃ q : Nat, b = (q : Int) := ⟨b.toNat, by omega⟩
    have HV := Lib.hid (show potF (n : Int) bs (p : Int) (q : Int) = ((ascL (cyA (tmap n bs p q) n n).2).reverse, 0) by
      unfold potF
      rw [if_pos hc]
      rfl)
    rw [HV.out]
    rw [hc] at HPC
    have HPT := Lib.hid fun W (hb : Below w.heap.size w W) => l09Table_any n s bs W (h.below hb (Nat.le_refl _)) hi hf
    have hin := prd_in (.inl rfl) hi hf
    rw [Nat.add_zero] at hin
    have HR := Lib.hid hin
    have hp1 : p < n := by omega
    have hq1 : q < n := by omega
    have g0 : (0 : Int) ≤ (p : Int) := by omega
    have g1 : (p : Int) < (n : Int) := by omega
    have g2 : (0 : Int) ≤ (q : Int) := by omega
    have g3 : (q : Int) < (n : Int) := by omega
    have HTI := Lib.hid (tmap_in hin hp1 hq1)
    have hmk := mkBoolsR n (by omega)
    have hn0 : 0 < n := by omega
    have hn15 : n ≤ 1000 := by omega
    clear h hc hi hf hz ha hb hv3 HV hin
    obtain ⟨a0, c0, rfl⟩ := hs
    have HPX := Lib.hid (HPC.out _ ((w.alloc (.cells #[.int .i64 (n : Int), .slice a0 bs.length c0] 30)).alloc (.cells #[.int .i64 (p : Int), .int .i64 (q : Int)] 2)) (((Below.refl _ _).alloc (Nat.le_refl _) _).alloc (by simp) _) (lit_ib2 (w.alloc (.cells #[.int .i64 (n : Int), .slice a0 bs.length c0] 30)) p q))
    rw [show ∀ o, (w.alloc o).heap.size = w.heap.size + 1 from fun o => by simp] at HPX
    clear HPC
    go_enter Try.func33, Try.ntmps33
    go_wp2_with fail
    refine HPX.out.mono ?_
    rintro e w1 ⟨rfl, hb1⟩
    have hB1 : Below w.heap.size w w1 := (((Below.refl _ _).alloc (Nat.le_refl _) _).alloc (by simp) _).trans (hb1.mono (by simp <;> omega))
    have d0 : w1.cell? ⟨w.heap.size, 0, none⟩ = some (.int .i64 (n : Int)) := (hb1.cell (p := ⟨w.heap.size, 0, none⟩) (by simp <;> omega)).trans (by simp [go_sem])
    have d1 : w1.cell? ⟨w.heap.size, 1, none⟩ = some (.slice a0 bs.length c0) := (hb1.cell (p := ⟨w.heap.size, 1, none⟩) (by simp <;> omega)).trans (by simp [go_sem])
    have hz1 : w.heap.size + 1 < w1.heap.size := by have := hb1.size; simp at this; omega
    have HB1 := Lib.hid hB1
    have HPT2 := Lib.hid fun W (hW : Below w1.heap.size w1 W) => (HPT.out W (HB1.out.trans (hW.mono HB1.out.size))).mono (R' := fun e w' => ∃ u us, e = .returned u ∧ TabL w' W.heap.size u us (rowsTo n (prd 0 n bs) n) ∧ Below W.heap.size W w' ∧ Below w1.heap.size w1 w') fun e w' h => by
      obtain ⟨u, us, h1, h2, h3⟩ := h
      exact ⟨u, us, h1, h2, h3, hW.trans (h3.mono hW.size)⟩
    clear hb1 hB1 HPX HPT
    go_wp2_with fail
    go_region_held3 (fun w' => w'.cell? ⟨w.heap.size, 0, none⟩ = some (.int .i64 (n : Int)) ∧ w'.cell? ⟨w.heap.size, 1, none⟩ = some (.slice a0 bs.length c0))
      (first
        | exact ⟨A0, A1⟩
        | exact ⟨d0, d1⟩
        | go_keep)
      (first
        | (go_at_call 54; refine (HPT2.out _ (by first | exact (Below.refl _ _).drew | exact ((Below.refl _ _).alloc (Nat.le_refl _) _).drew | exact (((Below.refl _ _).alloc (Nat.le_refl _) _).alloc (by simp) _).drew | exact ((Below.refl _ _).drew).alloc (by simp) _ | exact (((Below.refl _ _).drew).alloc (by simp) _).alloc (by simp) _)).mono ?_; rintro e w2 ⟨u, us, rfl, hT, hb2, hb3⟩; have A0 := (hb3.cell (p := ⟨w.heap.size, 0, none⟩) (by show w.heap.size < _; omega)).trans d0; have A1 := (hb3.cell (p := ⟨w.heap.size, 1, none⟩) (by show w.heap.size < _; omega)).trans d1))
    all_goals (have hz3 := hb3.size; have hz2 := hb2.size; try simp at hz2)
    all_goals (first
      | ((obtain ⟨W, hWe⟩ : ∃ W, W = ((w2.alloc (.cells (madeCells #[.bool false] n) 4)).alloc (.cells #[] 2)) := ⟨_, rfl⟩); (obtain ⟨S, hSe⟩ : ∃ S, S = w2.heap.size := ⟨_, rfl⟩); (obtain ⟨O, hOe⟩ : ∃ O, O = (w2.heap.size + 1) := ⟨_, rfl⟩); have hP : ∃ G c gs caps, u = .slice (some ⟨G, 0, none⟩) n c ∧ PotM W w1.heap.size G gs caps n (rowT n (prd 0 n bs)) S (fun _ => false) (.slice (some ⟨O, 0, none⟩) 0 0) [] := (by rw [hWe, hSe, hOe]; exact PotM.of (lo := w1.heap.size) (Wc := w1.drew) (W := ((w2.alloc (.cells (madeCells #[.bool false] n) 4)).alloc (.cells #[] 2))) (S := w2.heap.size) (O := (w2.heap.size + 1)) hT hn0 hn15 (by first | omega | (simp; omega) | (left; omega) | (right; omega) | (left; simp; omega) | (right; simp; omega) | (left; simp; done) | (right; simp; done) | (simp; done)) (((Below.refl _ _).alloc (Nat.le_refl _) _).alloc (by simp) _) ((BoolsAt.made w2 n _).belowC ((Below.refl _ _).alloc (Nat.le_refl _) _)) (by simpa using lit0 (w2.alloc (.cells (madeCells #[.bool false] n) 4)) (base := w1.heap.size) (by first | omega | (simp; omega) | (left; omega) | (right; omega) | (left; simp; omega) | (right; simp; omega) | (left; simp; done) | (right; simp; done) | (simp; done))) (by first | omega | (simp; omega) | (left; omega) | (right; omega) | (left; simp; omega) | (right; simp; omega) | (left; simp; done) | (right; simp; done) | (simp; done)) (by first | omega | (simp; omega) | (left; omega) | (right; omega) | (left; simp; omega) | (right; simp; omega) | (left; simp; done) | (right; simp; done) | (simp; done)) (by first | omega | (simp; omega) | (left; omega) | (right; omega) | (left; simp; omega) | (right; simp; omega) | (left; simp; done) | (right; simp; done) | (simp; done)) (by first | omega | (simp; omega) | (left; omega) | (right; omega) | (left; simp; omega) | (right; simp; omega) | (left; simp; done) | (right; simp; done) | (simp; done))); have hb9 : Below w1.heap.size w1 ((w2.alloc (.cells (madeCells #[.bool false] n) 4)).alloc (.cells #[] 2)) := (hb3.alloc hb3.size _).alloc (by have := hb3.size; simp; omega) _; rw [← hWe] at hb9 ⊢; rw [← hOe]; rw [← hSe]; clear hSe hOe hWe)
      | ((obtain ⟨W, hWe⟩ : ∃ W, W = ((w2.alloc (.cells #[] 2)).alloc (.cells (madeCells #[.bool false] n) 4)) := ⟨_, rfl⟩); (obtain ⟨S, hSe⟩ : ∃ S, S = (w2.heap.size + 1) := ⟨_, rfl⟩); (obtain ⟨O, hOe⟩ : ∃ O, O = w2.heap.size := ⟨_, rfl⟩); have hP : ∃ G c gs caps, u = .slice (some ⟨G, 0, none⟩) n c ∧ PotM W w1.heap.size G gs caps n (rowT n (prd 0 n bs)) S (fun _ => false) (.slice (some ⟨O, 0, none⟩) 0 0) [] := (by rw [hWe, hSe, hOe]; exact PotM.of (lo := w1.heap.size) (Wc := w1.drew) (W := ((w2.alloc (.cells #[] 2)).alloc (.cells (madeCells #[.bool false] n) 4))) (S := (w2.heap.size + 1)) (O := w2.heap.size) hT hn0 hn15 (by first | omega | (simp; omega) | (left; omega) | (right; omega) | (left; simp; omega) | (right; simp; omega) | (left; simp; done) | (right; simp; done) | (simp; done)) (((Below.refl _ _).alloc (Nat.le_refl _) _).alloc (by simp) _) (by simpa using BoolsAt.made (w2.alloc (.cells #[] 2)) n 4) ((lit0 w2 (base := w1.heap.size) (by first | omega | (simp; omega) | (left; omega) | (right; omega) | (left; simp; omega) | (right; simp; omega) | (left; simp; done) | (right; simp; done) | (simp; done))).below ((Below.refl _ _).alloc (Nat.le_refl _) _) (Nat.le_refl _)) (by first | omega | (simp; omega) | (left; omega) | (right; omega) | (left; simp; omega) | (right; simp; omega) | (left; simp; done) | (right; simp; done) | (simp; done)) (by first | omega | (simp; omega) | (left; omega) | (right; omega) | (left; simp; omega) | (right; simp; omega) | (left; simp; done) | (right; simp; done) | (simp; done)) (by first | omega | (simp; omega) | (left; omega) | (right; omega) | (left; simp; omega) | (right; simp; omega) | (left; simp; done) | (right; simp; done) | (simp; done)) (by first | omega | (simp; omega) | (left; omega) | (right; omega) | (left; simp; omega) | (right; simp; omega) | (left; simp; done) | (right; simp; done) | (simp; done))); have hb9 : Below w1.heap.size w1 ((w2.alloc (.cells #[] 2)).alloc (.cells (madeCells #[.bool false] n) 4)) := (hb3.alloc hb3.size _).alloc (by have := hb3.size; simp; omega) _; rw [← hWe] at hb9 ⊢; rw [← hSe]; rw [← hOe]; clear hSe hOe hWe)
      | ((obtain ⟨W, hWe⟩ : ∃ W, W = (w2.alloc (.cells #[] 2)) := ⟨_, rfl⟩); (obtain ⟨S, hSe⟩ : ∃ S, S = w1.heap.size := ⟨_, rfl⟩); (obtain ⟨O, hOe⟩ : ∃ O, O = w2.heap.size := ⟨_, rfl⟩); have hP : ∃ G c gs caps, u = .slice (some ⟨G, 0, none⟩) n c ∧ PotM W w1.heap.size G gs caps n (rowT n (prd 0 n bs)) S (fun _ => false) (.slice (some ⟨O, 0, none⟩) 0 0) [] := (by rw [hWe, hSe, hOe]; exact PotM.of (lo := w1.heap.size) (Wc := (w1.alloc (.cells (madeCells #[.bool false] n) 4)).drew) (W := (w2.alloc (.cells #[] 2))) (S := w1.heap.size) (O := w2.heap.size) hT hn0 hn15 (by first | omega | (simp; omega) | (left; omega) | (right; omega) | (left; simp; omega) | (right; simp; omega) | (left; simp; done) | (right; simp; done) | (simp; done)) ((Below.refl _ _).alloc (Nat.le_refl _) _) ((((BoolsAt.made w1 n 4).belowC ((Below.refl _ _).drew)).belowC hb2).belowC ((Below.refl _ _).alloc (Nat.le_refl _) _)) (lit0 w2 (by first | omega | (simp; omega) | (left; omega) | (right; omega) | (left; simp; omega) | (right; simp; omega) | (left; simp; done) | (right; simp; done) | (simp; done))) (by first | omega | (simp; omega) | (left; omega) | (right; omega) | (left; simp; omega) | (right; simp; omega) | (left; simp; done) | (right; simp; done) | (simp; done)) (by first | omega | (simp; omega) | (left; omega) | (right; omega) | (left; simp; omega) | (right; simp; omega) | (left; simp; done) | (right; simp; done) | (simp; done)) (by first | omega | (simp; omega) | (left; omega) | (right; omega) | (left; simp; omega) | (right; simp; omega) | (left; simp; done) | (right; simp; done) | (simp; done)) (by first | omega | (simp; omega) | (left; omega) | (right; omega) | (left; simp; omega) | (right; simp; omega) | (left; simp; done) | (right; simp; done) | (simp; done))); have hb9 : Below w1.heap.size w1 (w2.alloc (.cells #[] 2)) := hb3.alloc hb3.size _; rw [← hWe] at hb9 ⊢; rw [← hSe]; rw [← hOe]; clear hSe hOe hWe)
      | ((obtain ⟨W, hWe⟩ : ∃ W, W = (w2.alloc (.cells (madeCells #[.bool false] n) 4)) := ⟨_, rfl⟩); (obtain ⟨S, hSe⟩ : ∃ S, S = w2.heap.size := ⟨_, rfl⟩); (obtain ⟨O, hOe⟩ : ∃ O, O = w1.heap.size := ⟨_, rfl⟩); have hP : ∃ G c gs caps, u = .slice (some ⟨G, 0, none⟩) n c ∧ PotM W w1.heap.size G gs caps n (rowT n (prd 0 n bs)) S (fun _ => false) (.slice (some ⟨O, 0, none⟩) 0 0) [] := (by rw [hWe, hSe, hOe]; exact PotM.of (lo := w1.heap.size) (Wc := (w1.alloc (.cells #[] 2)).drew) (W := (w2.alloc (.cells (madeCells #[.bool false] n) 4))) (S := w2.heap.size) (O := w1.heap.size) hT hn0 hn15 (by first | omega | (simp; omega) | (left; omega) | (right; omega) | (left; simp; omega) | (right; simp; omega) | (left; simp; done) | (right; simp; done) | (simp; done)) ((Below.refl _ _).alloc (Nat.le_refl _) _) (BoolsAt.made w2 n _) ((((lit0 w1 (Nat.le_refl _)).below ((Below.refl _ _).drew) (Nat.le_refl _)).below hb2 (Nat.le_refl _)).below ((Below.refl _ _).alloc (Nat.le_refl _) _) (Nat.le_refl _)) (by first | omega | (simp; omega) | (left; omega) | (right; omega) | (left; simp; omega) | (right; simp; omega) | (left; simp; done) | (right; simp; done) | (simp; done)) (by first | omega | (simp; omega) | (left; omega) | (right; omega) | (left; simp; omega) | (right; simp; omega) | (left; simp; done) | (right; simp; done) | (simp; done)) (by first | omega | (simp; omega) | (left; omega) | (right; omega) | (left; simp; omega) | (right; simp; omega) | (left; simp; done) | (right; simp; done) | (simp; done)) (by first | omega | (simp; omega) | (left; omega) | (right; omega) | (left; simp; omega) | (right; simp; omega) | (left; simp; done) | (right; simp; done) | (simp; done))); have hb9 : Below w1.heap.size w1 (w2.alloc (.cells (madeCells #[.bool false] n) 4)) := hb3.alloc hb3.size _; rw [← hWe] at hb9 ⊢; rw [← hSe]; rw [← hOe]; clear hSe hOe hWe)
      | ((obtain ⟨W, hWe⟩ : ∃ W, W = w2 := ⟨_, rfl⟩); (obtain ⟨S, hSe⟩ : ∃ S, S = w1.heap.size := ⟨_, rfl⟩); (obtain ⟨O, hOe⟩ : ∃ O, O = (w1.heap.size + 1) := ⟨_, rfl⟩); have hP : ∃ G c gs caps, u = .slice (some ⟨G, 0, none⟩) n c ∧ PotM W w1.heap.size G gs caps n (rowT n (prd 0 n bs)) S (fun _ => false) (.slice (some ⟨O, 0, none⟩) 0 0) [] := (by rw [hWe, hSe, hOe]; exact PotM.of (lo := w1.heap.size) (Wc := ((w1.alloc (.cells (madeCells #[.bool false] n) 4)).alloc (.cells #[] 2)).drew) (W := w2) (S := w1.heap.size) (O := (w1.heap.size + 1)) hT hn0 hn15 (by first | omega | (simp; omega) | (left; omega) | (right; omega) | (left; simp; omega) | (right; simp; omega) | (left; simp; done) | (right; simp; done) | (simp; done)) (Below.refl _ _) ((((BoolsAt.made w1 n 4).belowC ((Below.refl _ _).alloc (Nat.le_refl _) _)).belowC ((Below.refl _ _).drew)).belowC hb2) (by simpa using ((lit0 (w1.alloc (.cells (madeCells #[.bool false] n) 4)) (base := w1.heap.size) (by first | omega | (simp; omega) | (left; omega) | (right; omega) | (left; simp; omega) | (right; simp; omega) | (left; simp; done) | (right; simp; done) | (simp; done))).below ((Below.refl _ _).drew) (Nat.le_refl _)).below hb2 (Nat.le_refl _)) (by first | omega | (simp; omega) | (left; omega) | (right; omega) | (left; simp; omega) | (right; simp; omega) | (left; simp; done) | (right; simp; done) | (simp; done)) (by first | omega | (simp; omega) | (left; omega) | (right; omega) | (left; simp; omega) | (right; simp; omega) | (left; simp; done) | (right; simp; done) | (simp; done)) (by first | omega | (simp; omega) | (left; omega) | (right; omega) | (left; simp; omega) | (right; simp; omega) | (left; simp; done) | (right; simp; done) | (simp; done)) (by first | omega | (simp; omega) | (left; omega) | (right; omega) | (left; simp; omega) | (right; simp; omega) | (left; simp; done) | (right; simp; done) | (simp; done))); have hb9 : Below w1.heap.size w1 w2 := hb3; rw [← hWe] at hb9 ⊢; rw [← hOe]; rw [← hSe]; clear hSe hOe hWe)
      | ((obtain ⟨W, hWe⟩ : ∃ W, W = w2 := ⟨_, rfl⟩); (obtain ⟨S, hSe⟩ : ∃ S, S = (w1.heap.size + 1) := ⟨_, rfl⟩); (obtain ⟨O, hOe⟩ : ∃ O, O = w1.heap.size := ⟨_, rfl⟩); have hP : ∃ G c gs caps, u = .slice (some ⟨G, 0, none⟩) n c ∧ PotM W w1.heap.size G gs caps n (rowT n (prd 0 n bs)) S (fun _ => false) (.slice (some ⟨O, 0, none⟩) 0 0) [] := (by rw [hWe, hSe, hOe]; exact PotM.of (lo := w1.heap.size) (Wc := ((w1.alloc (.cells #[] 2)).alloc (.cells (madeCells #[.bool false] n) 4)).drew) (W := w2) (S := (w1.heap.size + 1)) (O := w1.heap.size) hT hn0 hn15 (by first | omega | (simp; omega) | (left; omega) | (right; omega) | (left; simp; omega) | (right; simp; omega) | (left; simp; done) | (right; simp; done) | (simp; done)) (Below.refl _ _) (by simpa using ((BoolsAt.made (w1.alloc (.cells #[] 2)) n 4).belowC ((Below.refl _ _).drew)).belowC hb2) ((((lit0 w1 (Nat.le_refl _)).below ((Below.refl _ _).alloc (Nat.le_refl _) _) (Nat.le_refl _)).below ((Below.refl _ _).drew) (Nat.le_refl _)).below hb2 (Nat.le_refl _)) (by first | omega | (simp; omega) | (left; omega) | (right; omega) | (left; simp; omega) | (right; simp; omega) | (left; simp; done) | (right; simp; done) | (simp; done)) (by first | omega | (simp; omega) | (left; omega) | (right; omega) | (left; simp; omega) | (right; simp; omega) | (left; simp; done) | (right; simp; done) | (simp; done)) (by first | omega | (simp; omega) | (left; omega) | (right; omega) | (left; simp; omega) | (right; simp; omega) | (left; simp; done) | (right; simp; done) | (simp; done)) (by first | omega | (simp; omega) | (left; omega) | (right; omega) | (left; simp; omega) | (right; simp; omega) | (left; simp; done) | (right; simp; done) | (simp; done))); have hb9 : Below w1.heap.size w1 w2 := hb3; rw [← hWe] at hb9 ⊢; rw [← hSe]; rw [← hOe]; clear hSe hOe hWe))
    all_goals
      obtain ⟨G, c, gs, caps, rfl, hP⟩ := hP
      have HPW := Lib.hid hP
      have HB9 := Lib.hid hb9
      clear hP hT hb2 hb3 hz2 hz3 A0 A1
      obtain ⟨f, hff⟩ : ∃ f, f = tmap n bs p q := ⟨_, rfl⟩
      have HTC := Lib.hid fun (V : World) (hV : SSR V w1.heap.size G gs caps n (rowT n (prd 0 n bs))) (x : Nat) (hx : x < n) => turn_cells hV HR.out hp1 hq1 hx
      rw [← hff] at HTC HTI
      have HFF := Lib.hid hff
      obtain ⟨FR, hFR⟩ : ∃ FR, FR = rowT n (prd 0 n bs) := ⟨_, rfl⟩
      rw [← hFR] at HPW HTC
      have HLN := Lib.hid (cyA_len f n)
      have HSM := Lib.hid (cyA_small f n n)
      have HFL := Lib.hid fun s => fls_le n s
      clear hff hFR HR HPT2
      go_wp2
      go_loopw [11, 12] (fun o i wr => ∃ (k : Nat) (g m cc : Nat), k ≤ n ∧ i = .int .i64 k ∧ o = .slice (some ⟨g, 0, none⟩) m cc ∧ Below w1.heap.size w1 wr ∧ PotM wr w1.heap.size G gs caps n FR S (cyA f n k).1 o (negL (cyA f n k).2)) (fun _ i _ => n - (intOf i).toNat)
      case atStart => exact ⟨0, O, 0, 0, Nat.zero_le _, rfl, rfl, HB9.out, HPW.out⟩
      case round =>
        obtain ⟨k, g, m, cc, hk, rfl, rfl, hB, hM⟩ := hrel
        have HB := Lib.hid hB
        have HM := Lib.hid hM
        have y0 := (hB.cell (p := ⟨w.heap.size, 0, none⟩) (by show w.heap.size < _; omega)).trans d0
        have hz := hB.size
        clear hB hM
        by_cases hkl : k < n
        · obtain ⟨RES, hRES⟩ : ∃ RES, RES = cyGo f (n + 1) (cyA f n k).1 k 0 := ⟨_, rfl⟩
          have HN1 := Lib.hid (show (cyA f n (k + 1)).1 = RES.1 by rw [hRES]; rfl)
          have HN2 := Lib.hid (show (cyA f n (k + 1)).2 = if 0 < RES.2 then (cyA f n k).2 ++ [(RES.2 : Int)] else (cyA f n k).2 by rw [hRES]; rfl)
          have HRS := Lib.hid hRES.symm
          clear hRES
          have k0 : decide ((k : Int) < (n : Int)) = true := by simp; omega
          go_wp2
          go_loopw [13, 14] (fun l i wr => ∃ (x len : Nat) (s : Nat → Bool), i = .int .i64 x ∧ l = .int .i64 len ∧ x < n ∧ len + fls n s ≤ n ∧ Hid (cyGo f (n + 1 - len) s x len = RES) ∧ Below w1.heap.size w1 wr ∧ PotM wr w1.heap.size G gs caps n FR S s (.slice (some ⟨g, 0, none⟩) m cc) (negL (cyA f n k).2)) (fun l _ _ => n - (intOf l).toNat)
          case atStart => exact ⟨k, 0, _, rfl, rfl, hkl, by have := HFL.out (cyA f n k).1; omega, HRS, HB.out, HM.out⟩
          case round =>
            obtain ⟨x, len, s, rfl, rfl, hxn, hlen, hgo, hB, hM⟩ := hrel
            have HB2 := Lib.hid hB
            have HM2 := Lib.hid hM
            have x0 : (0 : Int) ≤ (x : Int) := by omega
            have x1 : (x : Int) < (n : Int) := by omega
            have m1 := hM.met.cell x hxn
            have m2 := hM.met.free x
            have hz2 := hB.size
            cases hs : s x with
            | true =>
              have hR : RES = (s, len) := by rw [← hgo.out, cyGo_stop (by omega) hs]
              rw [hs] at m1
              have HR1 := Lib.hid (show RES.1 = s by rw [hR])
              have HR2 := Lib.hid (show RES.2 = len by rw [hR])
              rw [HR1.out] at HN1
              rw [HR2.out] at HN2
              have hb := HLN.out k
              clear hB hM hgo hR hs
              by_cases hl0 : 0 < len
              · have HS2 := Lib.hid (show negL (cyA f n (k + 1)).2 = negL (cyA f n k).2 ++ [-(len : Int)] by rw [HN2.out, if_pos hl0]; simp [negL])
                have l0 : decide ((0 : Int) < (len : Int)) = true := by simp; omega
                have hll : (negL (cyA f n k).2).length ≤ 1100000 := by rw [negL_len]; omega
                have wn : IntKind.i64.wrap (-(len : Int)) = -(len : Int) := IntWalk.i64_in _ (by omega)
                obtain ⟨L, hL⟩ : ∃ L, L = negL (cyA f n k).2 := ⟨_, rfl⟩
                rw [← hL] at HS2 HM2 hll
                clear hL
                have HM3 := Lib.hid (HM2.out.below ((Below.refl _ _).alloc (Nat.le_refl _) (.cells #[.int .i64 (-(len : Int))] 2)))
                have hz3 : w1.heap.size ≤ (wr.alloc (.cells #[.int .i64 (-(len : Int))] 2)).heap.size := by simp; omega
                go_wp2_with (at_builtin; refine wpList_append_intG rfl _ _ rfl w1.heap.size (.slice (some ⟨g, 0, none⟩) m cc) L rfl HM3.out.own _ _ (-(len : Int)) rfl (by simp [go_sem]) hll hz3 ?_; intro g' cap' w4 hO4 hg4 hG4)
                have hM4 := HM3.out.app hg4 hO4 (by rcases hG4 with h | h; exact .inl h; exact .inr (by omega))
                have hB4 := (HB2.out.alloc hz2 (.cells #[.int .i64 (-(len : Int))] 2)).grown hg4 hz3 (fun j e => (HM3.out.own.blkP j e).1)
                clear hg4
                go_roundw
                case rel => first
                  | exact ⟨k + 1, g', _, cap', by omega, by go_num, rfl, hB4, by rw [HN1.out, HS2.out]; exact hM4⟩
                  | ((repeat apply Exists.intro); exact ⟨⟨k + 1, g', _, cap', by omega, by go_num, rfl, hB4, by rw [HN1.out, HS2.out]; exact hM4⟩, rfl⟩)
                case measure => simp [intOf]; omega
              · have HS2 := Lib.hid (show (cyA f n (k + 1)).2 = (cyA f n k).2 by rw [HN2.out, if_neg hl0])
                have l0 : decide ((0 : Int) < (len : Int)) = false := by simp; omega
                go_wp2
                go_roundw
                case rel => exact ⟨k + 1, g, m, cc, by omega, by go_num, rfl, HB2.out, by rw [HN1.out, HS2.out]; exact HM2.out⟩
                case measure => simp [intOf]; omega
            | false =>
              rw [hs] at m1
              have hfl := fls_sen hxn hs
              have HG := Lib.hid (show cyGo f (n + 1 - (len + 1)) (sen s x) (f x) (len + 1) = RES by
                rw [← hgo.out, cyGo_step (k := n + 1 - len) (by omega) hs]
                congr 1)
              have HFA := Lib.hid (HTI.out x hxn)
              have hset := HM2.out.set (a := x) hxn
              have hB3 := (HB2.out).setCell (p := ⟨S, x, none⟩) (HM2.out.slo) (.bool true)
              obtain ⟨V, hV⟩ : ∃ V, V = wr.setCell ⟨S, x, none⟩ (.bool true) := ⟨_, rfl⟩
              have HV2 := Lib.hid hV
              rw [← hV] at hset hB3
              obtain ⟨z, hzn, t1, t2, t3, t4⟩ := HTC.out V hset.ssr x hxn
              obtain ⟨y, hy⟩ : ∃ y, y = f x := ⟨_, rfl⟩
              rw [← hy] at t4 HG HFA
              have HSET := Lib.hid hset
              have HB3 := Lib.hid hB3
              have wl : IntKind.i64.wrap ((len : Int) + 1) = (len : Int) + 1 := IntWalk.i64_in _ (by omega)
              have z0 : (0 : Int) ≤ (z : Int) := by omega
              have z1 : (z : Int) < (n : Int) := by omega
              have t1 := cell_regrown t1
              have t2 := cell_regrown t2
              have t3 := cell_regrown t3
              have t4 := cell_regrown t4
              clear hB hM hgo hs hset hB3 hy hV
              go_upto_region 11 with fail
              rw [← HV2.out]
              refine wp_region_quiet_below (by kernel_rfl) (by kernel_rfl) ?_
              repeat (go_big_quiet_step (fail))
              refine wpQuiet_nil ?_
              intro _ hw'
              obtain ⟨⟨dq, osq⟩, hw''⟩ := hw'
              subst hw''
              have hbq := below_regrown V dq osq
              go_wp2
              go_roundw
              case rel => exact ⟨y, len + 1, sen s x, rfl, by go_num, HFA.out, by omega, HG, HB3.out.trans (hbq.mono HB3.out.size), HSET.out.below hbq⟩
              case measure => simp [intOf]; omega
        · have k0 : decide ((k : Int) < (n : Int)) = false := by simp; omega
          have e : k = n := by omega
          rw [e] at HM
          obtain ⟨N, hN⟩ : ∃ N, N = negL (cyA f n n).2 := ⟨_, rfl⟩
          have hNl : N.length ≤ 1000 := by rw [hN, negL_len]; have := HLN.out n; omega
          have hO := HM.out.own
          rw [← hN] at hO
          obtain ⟨hI, hmN, hlt2, hlo2⟩ := hO.ints0 (by omega)
          subst hmN
          have HCALL := Lib.hid (l03Ascending_any g 0 cc N wr hI hlt2 hNl)
          have HTY := Lib.hid (show negL (ascL N) = (ascL (cyA f n n).2).reverse by rw [hN]; exact ascL_neg _)
          have HMEM := Lib.hid (show ∀ z ∈ ascL N, -(n : Int) - 1 ≤ z ∧ z ≤ 0 from fun z hz => by
            have hz := (ascL_perm N).mem_iff.1 hz
            rw [hN] at hz
            obtain ⟨y, hy, rfl⟩ := List.mem_map.1 hz
            have := HSM.out y hy
            omega)
          have HA := Lib.hid (ascL_len N)
          obtain ⟨M, hMl⟩ : ∃ M, M = N.length := ⟨_, rfl⟩
          rw [← hMl] at HCALL HA hNl ⊢
          clear hI hO hlt2 hlo2 HM e hN hMl
          go_wp2_with fail
          refine HCALL.out.mono ?_
          rintro e w5 ⟨u5, rfl, ⟨g5, c5, rfl⟩, hO5, hb5⟩
          have hz5 := hb5.size
          have HB5 := Lib.hid (HB1.out.trans ((HB.out.trans (hb5.mono hz)).mono HB1.out.size))
          have HO5 := Lib.hid hO5
          have hwz : w.heap.size ≤ wr.heap.size := by omega
          clear HCALL hb5 hO5
          obtain ⟨Wr, rfl⟩ : ∃ W, W = wr := ⟨_, rfl⟩
          go_wp2_with fail
          go_loopw [15] (fun i wr2 => ∃ j : Nat, j ≤ M ∧ i = .int .i64 j ∧ Below w.heap.size w wr2 ∧ OwnJ wr2 Wr.heap.size (.slice (some ⟨g5, 0, none⟩) M c5) (mixL (ascL N) j)) (fun i _ => M - (intOf i).toNat)
          case atStart => exact ⟨0, Nat.zero_le _, rfl, HB5.out, HO5.out⟩
          case round =>
            obtain ⟨j, hj, rfl, hB6, hO6⟩ := hrel
            have hz6 := hB6.size
            have HB6 := Lib.hid hB6
            have HO6 := Lib.hid hO6
            by_cases hjk : j < M
            · have hat := hO6.at_ (i := j) (by rw [mixL_len, HA.out]; exact hjk)
              have q6 := hat.1
              have fz6 := hat.2.2.2.2
              have hlo6 := hat.2.1
              rw [mixL_at (by rw [HA.out]; exact hjk)] at q6
              have hset := (hO6.setT (i := j) (x := -((ascL N)[j]?.getD 0)) (by rw [mixL_len, HA.out]; exact hjk))
              rw [mixL_set (by rw [HA.out]; exact hjk)] at hset
              obtain ⟨hx0, hx1⟩ := HMEM.out ((ascL N)[j]?.getD 0) (by rw [List.getElem?_eq_getElem (by rw [HA.out]; exact hjk)]; exact List.getElem_mem _)
              generalize (ascL N)[j]?.getD 0 = x at q6 hset hx0 hx1
              have HSET := Lib.hid hset
              have wn : IntKind.i64.wrap (-x) = -x := IntWalk.i64_in _ (by omega)
              clear hset hat hB6 hO6
              have j0 : (0 : Int) ≤ (j : Int) := by omega
              have j1 : (j : Int) < (M : Int) := by omega
              go_wp2
              go_roundw
              case rel => exact ⟨j + 1, by omega, by go_num, HB6.out.grown HSET.out.2 hz6 (fun r e => by cases e; omega), HSET.out.1⟩
              case measure => simp [intOf]; omega
            · have e : j = M := by omega
              have hO7 := hO6
              rw [e, (congrArg (mixL (ascL N)) HA.out.symm).trans ((mixL_end _).trans HTY.out)] at hO7
              have HO7 := Lib.hid hO7
              have j1 : ¬ (j : Int) < (M : Int) := by omega
              subst e
              clear hO7 hO6 hB6
              go_wp2
              go_ret2
              exact ⟨_, rfl, by rw [← HFF.out]; exact ownsRow_base HO7.out hwz, HB6.out⟩
  · have HV := Lib.hid (show potF v bs a b = ([], pcode 0 v bs [a, b]) by
      unfold potF
      rw [if_neg hc])
    rw [HV.out]
    obtain ⟨μ, hμ⟩ : ∃ μ, μ = pcode 0 v bs [a, b] := ⟨_, rfl⟩
    rw [← hμ] at hc HPC ⊢
    have q1 : (μ != 0) = true := by simpa using hc
    clear h hμ hc HV
    obtain ⟨a0, c0, rfl⟩ := hs
    have HPX := Lib.hid (HPC.out _ ((w.alloc (.cells #[.int .i64 v, .slice a0 bs.length c0] 30)).alloc (.cells #[.int .i64 a, .int .i64 b] 2)) (((Below.refl _ _).alloc (Nat.le_refl _) _).alloc (by simp) _) (lit_ib2 (w.alloc (.cells #[.int .i64 v, .slice a0 bs.length c0] 30)) a b))
    rw [show ∀ o, (w.alloc o).heap.size = w.heap.size + 1 from fun o => by simp] at HPX
    clear HPC
    go_enter Try.func33, Try.ntmps33
    go_wp2_with fail
    refine HPX.out.mono ?_
    rintro e w1 ⟨rfl, hb1⟩
    have hB1 : Below w.heap.size w w1 := (((Below.refl _ _).alloc (Nat.le_refl _) _).alloc (by simp) _).trans (hb1.mono (by simp <;> omega))
    clear hb1
    go_wp2
    go_ret2
    exact ⟨_, rfl, OwnJ.nil _ _, hB1⟩
end Go.Proofs.Ytahgialnhomefaa

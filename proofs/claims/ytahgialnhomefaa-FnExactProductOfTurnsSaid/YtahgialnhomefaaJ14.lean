
/- TurnOf. The program's isRenumbering. Places in a list: the program's and the model's. impl.placesOf: the places of a block's points in a list. A copy of a list by the model. The model's TurnOf. Associative triples: plain; the model's l09Triples. CountAssociative and CountPointTriples of the program; CountPointTriples of the model. -/
import Derived.Test.YtahgialnhomefaaJ13
namespace Go.Proofs.Ytahgialnhomefaa
open Go.RowKit Go.Maps
/-- An answer of a list and a code. -/
def RI (r : List Int × Int) (w : World) (e : Ending) (w' : World) : Prop := ∃ u, e = .returned (.tuple #[u, .int .i64 r.2]) ∧ ResI w' w.heap.size w'.heap.size u r.1 ∧ Below w.heap.size w w'
def turnF (v : Int) (bs : List Blk) (a : Int) : List Int × Int := if pcode 0 v bs [a] = 0 then (rowT v.toNat (prd 0 v.toNat bs) a.toNat, 0) else ([], pcode 0 v bs [a])
theorem pcode_v {v : Int} {bs : List Blk} {zs : List Int} (h : pcode 0 v bs zs = 0) : 3 ≤ v ∧ v ≤ 15 := by
  have := sys_size (pcode_zero h).1
  omega
theorem turnF_len (v : Int) (bs : List Blk) (a : Int) : (turnF v bs a).1.length ≤ 15 := by
  unfold turnF
  split
  · rename_i h
    have := pcode_v h
    rw [rowT_len]; omega
  · simp
set_option maxRecDepth 100000 in
set_option maxHeartbeats 1000000 in
theorem TurnOf_any (v : Int) (s : Value) (bs : List Blk) (a : Int) (w : World) (h : SB w s bs) :
    Calls Try.prog 28 #[.agg #[.int .i64 v, s], .int .i64 a] w (RI (turnF v bs a) w) := by
  have hs := h.slice
  have HPC := Lib.hid fun t W (hb : Below w.heap.size w W) ht => productCode_any 0 (.inl rfl) v s bs t [a] W (h.below hb (Nat.le_refl _)) ht
  by_cases hc : pcode 0 v bs [a] = 0
  · obtain ⟨hi, hf, hz⟩ := pcode_zero hc
    obtain ⟨hv3, hv15, _⟩ := sys_size hi
    obtain ⟨n, rfl⟩ : ∃ n : Nat, v = (n : Int) := ⟨v.toNat, by omega⟩
    have ha := hz a (by simp)
    obtain ⟨p, rfl⟩ : ∃ p : Nat, a = (p : Int) := ⟨a.toNat, by omega⟩
    have HV := Lib.hid (show turnF (n : Int) bs (p : Int) = (rowT n (prd 0 n bs) p, 0) by
      unfold turnF
      rw [if_pos hc]
      rfl)
    rw [HV.out]
    rw [hc] at HPC
    have HPT := Lib.hid fun W (hb : Below w.heap.size w W) => productTable_any 0 (.inl rfl) n s bs W (h.below hb (Nat.le_refl _)) hi
    have hp1 : p < n + 0 := by omega
    have g0 : (0 : Int) ≤ (p : Int) := by omega
    have g1 : (p : Int) < (n : Int) := by omega
    rw [Nat.add_zero] at hp1 HPT
    clear h hc hi hf hz ha hv3 hv15 HV
    obtain ⟨a0, c0, rfl⟩ := hs
    have HPX := Lib.hid (HPC.out _ ((w.alloc (.cells #[.int .i64 (n : Int), .slice a0 bs.length c0] 30)).alloc (.cells #[.int .i64 (p : Int)] 2)) (((Below.refl _ _).alloc (Nat.le_refl _) _).alloc (by simp) _) (lit_ib1 (w.alloc (.cells #[.int .i64 (n : Int), .slice a0 bs.length c0] 30)) p))
    rw [show ∀ o, (w.alloc o).heap.size = w.heap.size + 1 from fun o => by simp] at HPX
    clear HPC
    go_enter Try.func28, Try.ntmps28
    go_wp2_with fail
    refine HPX.out.mono ?_
    rintro e w1 ⟨rfl, hb1⟩
    have hB1 : Below w.heap.size w w1 := (((Below.refl _ _).alloc (Nat.le_refl _) _).alloc (by simp) _).trans (hb1.mono (by simp <;> omega))
    have d0 : w1.cell? ⟨w.heap.size, 0, none⟩ = some (.int .i64 (n : Int)) := (hb1.cell (p := ⟨w.heap.size, 0, none⟩) (by simp <;> omega)).trans (by simp [go_sem])
    have d1 : w1.cell? ⟨w.heap.size, 1, none⟩ = some (.slice a0 bs.length c0) := (hb1.cell (p := ⟨w.heap.size, 1, none⟩) (by simp <;> omega)).trans (by simp [go_sem])
    clear hb1
    go_wp2_with fail
    refine (HPT.out _ hB1).mono ?_
    rintro e w2 ⟨G, gs, caps, rfl, _, hb2, hS⟩
    have hB2 := hB1.trans (hb2.mono hB1.size)
    have hlow := hS.low p hp1
    have hrow := hS.row p hp1
    have e1 := hS.cell p hp1
    rw [rowT_len] at e1
    have hz1 := hB1.size
    have HR := Lib.hid hrow
    clear hb2 hS hrow
    go_wp2
    go_ret2
    refine ⟨_, rfl, ?_, hB2⟩
    have := HR.out.res (cap := caps p) (lo := w.heap.size) (by omega)
    rw [rowT_len] at this
    exact this
  · have HV := Lib.hid (show turnF v bs a = ([], pcode 0 v bs [a]) by
      unfold turnF
      rw [if_neg hc])
    rw [HV.out]
    obtain ⟨μ, hμ⟩ : ∃ μ, μ = pcode 0 v bs [a] := ⟨_, rfl⟩
    rw [← hμ] at hc HPC ⊢
    have q1 : (μ != 0) = true := by simpa using hc
    clear h hμ hc HV
    obtain ⟨a0, c0, rfl⟩ := hs
    have HPX := Lib.hid (HPC.out _ ((w.alloc (.cells #[.int .i64 v, .slice a0 bs.length c0] 30)).alloc (.cells #[.int .i64 a] 2)) (((Below.refl _ _).alloc (Nat.le_refl _) _).alloc (by simp) _) (lit_ib1 (w.alloc (.cells #[.int .i64 v, .slice a0 bs.length c0] 30)) a))
    rw [show ∀ o, (w.alloc o).heap.size = w.heap.size + 1 from fun o => by simp] at HPX
    clear HPC
    go_enter Try.func28, Try.ntmps28
    go_wp2_with fail
    refine HPX.out.mono ?_
    rintro e w1 ⟨rfl, hb1⟩
    have hB1 : Below w.heap.size w w1 := (((Below.refl _ _).alloc (Nat.le_refl _) _).alloc (by simp) _).trans (hb1.mono (by simp <;> omega))
    clear hb1
    go_wp2
    go_ret2
    exact ⟨_, rfl, .inl ⟨rfl, _, _, rfl⟩, hB1⟩
end Go.Proofs.Ytahgialnhomefaa

namespace Go.Proofs.Ytahgialnhomefaa
open Go.RowKit Go.Maps
theorem intKeyed : Keyed Try.prog 2 := int_keyed Try.underlying2
theorem int_key {a : Int} (ha : WF a) : ∃ kl, keyOf Try.prog 2 (.int .i64 a) = some kl := ⟨_, keyOf_int_mk Try.underlying2 ha⟩
def iv (a : Int) : Value := .int .i64 a
theorem iv_inj {a b : Int} (h : iv a = iv b) : a = b := by simpa [iv] using h
theorem take_snoc' {l : List Int} {k : Nat} (h : k < l.length) : l.take (k + 1) = l.take k ++ [l[k]?.getD 0] := by
  rw [List.take_succ_eq_append_getElem h]; simp [h]
end Go.Proofs.Ytahgialnhomefaa

namespace Go.Proofs.Ytahgialnhomefaa
open Go.RowKit Go.Maps
theorem place_drop {zs : List Int} {x : Int} {k : Nat} (hk : k < zs.length) (h : place zs x = plGo x (zs.drop k) k) : (zs[k]?.getD 0 = x → place zs x = k) ∧ (zs[k]?.getD 0 ≠ x → place zs x = plGo x (zs.drop (k + 1)) (k + 1)) := by
  have hdr : zs.drop k = (zs[k]?.getD 0) :: zs.drop (k + 1) := by rw [List.drop_eq_getElem_cons hk]; simp [hk]
  rw [hdr] at h
  refine ⟨fun e => ?_, fun e => ?_⟩
  · rw [h, plGo, if_pos e]
  · rw [h, plGo, if_neg e]
set_option maxRecDepth 100000 in
theorem Idx_any (s : Value) (zs : List Int) (x : Int) (w : World) (h : IB w s zs) : Calls Try.prog 111 #[s, .int .i64 x] w (RS (.int .i64 (place zs x)) w) := by
  obtain ⟨hlen, h3⟩ := h
  rcases h3 with ⟨a0, c0, rfl, rfl⟩ | ⟨b, off, cap, rfl, hlt, hI⟩
  · go_enter Try.func111, Try.ntmps111
    go_wp2
    refine wp_loop_rounds 1 ?_
    rw [rounds_succ]
    go_wp2
    go_ret
    exact RS_of rfl
  · have HI := Lib.hid hI
    clear hI
    go_enter Try.func111, Try.ntmps111
    go_wp2
    go_loop [8] (fun i => ∃ k : Nat, k ≤ zs.length ∧ i = .int .i64 k ∧ Hid (place zs x = plGo x (zs.drop k) k)) (fun i => zs.length - (intOf i).toNat)
    case atStart => exact ⟨0, Nat.zero_le _, rfl, Lib.hid (by simp [place])⟩
    case round =>
      obtain ⟨k, hk, rfl, HE⟩ := hrel
      by_cases hkl : k < zs.length
      · have c0 := HI.out k hkl
        obtain ⟨d1, d2⟩ := place_drop hkl HE.out
        obtain ⟨z, hz⟩ : ∃ z, z = zs[k]?.getD 0 := ⟨_, rfl⟩
        rw [← hz] at c0 d1 d2
        have D1 := Lib.hid d1
        have D2 := Lib.hid d2
        have g0 : (0 : Int) ≤ (k : Int) := by omega
        have g1 : (k : Int) < (zs.length : Int) := by omega
        clear hz d1 d2
        by_cases e : z = x
        · have q1 : (x == z) = true := by simpa using e.symm
          have q2 : decide (x = z) = true := by simpa using e.symm
          have HZ := Lib.hid (D1.out e)
          clear e
          go_wp2
          go_ret
          exact RS_of (int_eq (by rw [HZ.out]))
        · have q1 : (x == z) = false := by simpa using fun h => e h.symm
          have q2 : decide (x = z) = false := by simpa using fun h => e h.symm
          have HZ := Lib.hid (D2.out e)
          clear e
          go_wp2
          go_round
          case rel => exact ⟨k + 1, by omega, by go_num, HZ⟩
          case measure => simp [intOf]; omega
      · go_wp2
        go_ret
        exact RS_of (int_eq (by rw [HE.out, List.drop_eq_nil_of_le (by omega), plGo]))
set_option maxRecDepth 100000 in
theorem isNumberSet_any (v : Int) (s : Value) (zs : List Int) (w : World) (h : IB w s zs) : Calls Try.prog 106 #[.int .i64 v, s] w (RS (.bool (ptGo v none zs)) w) := by
  obtain ⟨hlen, h3⟩ := h
  rcases h3 with ⟨a0, c0, rfl, rfl⟩ | ⟨b, off, cap, rfl, hlt, hI⟩
  · go_enter Try.func106, Try.ntmps106
    go_wp2
    refine wp_loop_rounds 1 ?_
    rw [rounds_succ]
    go_wp2
    go_ret
    exact RS_of rfl
  · have HI := Lib.hid hI
    clear hI
    go_enter Try.func106, Try.ntmps106
    go_wp2
    go_loop [9] (fun i => ∃ k : Nat, k ≤ zs.length ∧ i = .int .i64 k ∧ Hid (ptGo v none zs = ptGo v (if k = 0 then none else zs[k - 1]?) (zs.drop k))) (fun i => zs.length - (intOf i).toNat)
    case atStart => exact ⟨0, Nat.zero_le _, rfl, Lib.hid (by simp)⟩
    case round =>
      obtain ⟨k, hk, rfl, HE⟩ := hrel
      by_cases hkl : k < zs.length
      · have c0 := HI.out k hkl
        have hdr : zs.drop k = (zs[k]?.getD 0) :: zs.drop (k + 1) := by rw [List.drop_eq_getElem_cons hkl]; simp [hkl]
        have hkk : zs[k]? = some (zs[k]?.getD 0) := by simp [hkl]
        obtain ⟨z, hz⟩ : ∃ z, z = zs[k]?.getD 0 := ⟨_, rfl⟩
        rw [← hz] at c0 hdr hkk
        have he := HE.out
        rw [hdr] at he
        have HKK := Lib.hid hkk
        have g0 : (0 : Int) ≤ (k : Int) := by omega
        have g1 : (k : Int) < (zs.length : Int) := by omega
        clear hz hdr hkk HE
        cases hin : inP v z with
        | false =>
          have HV := Lib.hid (show ptGo v none zs = false by rw [he]; unfold ptGo; rw [hin]; rfl)
          have hor : z < 0 ∨ v ≤ z := by simp [inP] at hin; omega
          by_cases hz0 : z < 0
          · have q0 : decide (z < 0) = true := decide_eq_true hz0
            clear hin he hor
            go_wp2
            go_ret
            exact RS_of (bool_eq (by rw [HV.out]))
          · have q0 : decide (z < 0) = false := decide_eq_false hz0
            have q1 : decide (v ≤ z) = true := decide_eq_true (by omega)
            clear hin he hor hz0
            go_wp2
            go_ret
            exact RS_of (bool_eq (by rw [HV.out]))
        | true =>
          have hor : 0 ≤ z ∧ z < v := by simpa [inP] using hin
          have p0 : decide (z < 0) = false := decide_eq_false (by omega)
          have p1 : decide (v ≤ z) = false := decide_eq_false (by omega)
          by_cases hk0 : k = 0
          · subst hk0
            have HV := Lib.hid (show ptGo v none zs = ptGo v (some z) (zs.drop 1) by rw [he]; simp [ptGo, hin])
            have gd : decide ((0 : Int) < ((0 : Nat) : Int)) = false := by decide
            have c1 : w.cell? ⟨b, off, none⟩ = some (.int .i64 z) := by simpa using c0
            clear c0
            clear hin hor he
            go_wp2
            go_round
            case rel => exact ⟨1, by omega, by go_num, Lib.hid (by rw [HV.out]; simp; rw [← HKK.out])⟩
            case measure => simp [intOf]; omega
          · obtain ⟨j, rfl⟩ : ∃ j, k = j + 1 := ⟨k - 1, by omega⟩
            have cj := HI.out j (by omega)
            have hj : zs[j]? = some (zs[j]?.getD 0) := by simp [show j < zs.length by omega]
            obtain ⟨y, hy⟩ : ∃ y, y = zs[j]?.getD 0 := ⟨_, rfl⟩
            rw [← hy] at cj hj
            have he2 : ptGo v none zs = (decide (y < z) && ptGo v (some z) (zs.drop (j + 1 + 1))) := by
              rw [he]
              simp only [Nat.add_one_ne_zero, if_false, Nat.add_sub_cancel]
              rw [hj]
              simp [ptGo, hin]
            have HV := Lib.hid he2
            have gd : decide ((0 : Int) < ((j + 1 : Nat) : Int)) = true := by simp <;> omega
            have gi : (0 : Int) < (j : Int) + 1 := by omega
            have gj0 : (0 : Int) ≤ (j : Int) := by omega
            have gj1 : (j : Int) < (zs.length : Int) := by omega
            have ej : ((j + 1 : Nat) : Int) - 1 = (j : Int) := by omega
            clear hin hor he he2 hy hj
            by_cases hyz : y < z
            · have q1 : decide (z ≤ y) = false := by simp; omega
              have HW := Lib.hid (show ptGo v none zs = ptGo v (some z) (zs.drop (j + 1 + 1)) by rw [HV.out]; simp [hyz])
              go_wp2
              go_round
              case rel => exact ⟨j + 1 + 1, by omega, by go_num, Lib.hid (by rw [HW.out]; simp only [Nat.add_one_ne_zero, if_false, Nat.add_sub_cancel]; rw [← HKK.out])⟩
              case measure => simp [intOf]; omega
            · have q1 : decide (z ≤ y) = true := by simp; omega
              have q2 : z ≤ y := by omega
              have HW := Lib.hid (show ptGo v none zs = false by rw [HV.out]; simp [hyz])
              clear hyz
              go_wp2
              go_ret
              exact RS_of (bool_eq (by rw [HW.out]))
      · go_wp2
        go_ret
        exact RS_of (bool_eq (by rw [HE.out, List.drop_eq_nil_of_le (by omega), ptGo]))
end Go.Proofs.Ytahgialnhomefaa

namespace Go.Proofs.Ytahgialnhomefaa
open Go.RowKit Go.Maps
def plO (pts : List Int) (z : Int) : List Int := if 0 ≤ place pts z then [place pts z] else []
def plK (pts : List Int) (x : Blk) : Nat → List Int
  | 0 => []
  | 1 => plO pts x.a
  | 2 => plO pts x.a ++ plO pts x.b
  | _ => plO pts x.a ++ plO pts x.b ++ plO pts x.c
theorem plO_len (pts : List Int) (z : Int) : (plO pts z).length ≤ 1 := by unfold plO; split <;> simp
theorem plK_len (pts : List Int) (x : Blk) (k : Nat) : (plK pts x k).length ≤ 3 := by
  have h1 := plO_len pts x.a
  have h2 := plO_len pts x.b
  have h3 := plO_len pts x.c
  unfold plK
  split <;> simp [List.length_append] <;> omega
theorem OwnJ.nil0 (W : World) (base : Nat) : OwnJ W base (.slice none 0 0) [] := ⟨rfl, .inl ⟨rfl, rfl⟩⟩
theorem OwnJ.formS {W : World} {base : Nat} {u : Value} {zs : List Int} (h : OwnJ W base u zs) : ∃ a c, u = .slice a zs.length c := by
  rcases h.2 with ⟨rfl, h0⟩ | ⟨g, cap, _, rfl, _⟩
  · exact ⟨_, _, by rw [h0]⟩
  · exact ⟨_, _, rfl⟩
end Go.Proofs.Ytahgialnhomefaa

namespace Go.Proofs.Ytahgialnhomefaa
open Go.RowKit Go.Maps Go.Shelf
/-- A list in memory, at an address. -/
def IA (w : World) (s : Value) (zs : List Int) : Prop := ∃ b off cap, s = .slice (some ⟨b, off, none⟩) zs.length cap ∧ b < w.heap.size ∧ Ints w b off zs
theorem IA.ib {w : World} {s : Value} {zs : List Int} (h : IA w s zs) (hl : zs.length ≤ 1100000) : IB w s zs := by
  obtain ⟨b, off, cap, e, h1, h2⟩ := h
  exact ⟨hl, .inr ⟨b, off, cap, e, h1, h2⟩⟩
theorem IA.below {w w' : World} {s : Value} {zs : List Int} (h : IA w s zs) {B : Nat} (hb : Below B w w') (hB : w.heap.size ≤ B) : IA w' s zs := by
  obtain ⟨b, off, cap, e, h1, h2⟩ := h
  exact ⟨b, off, cap, e, Nat.lt_of_lt_of_le h1 hb.size, h2.below hb (by omega)⟩
/-- Appending a list that may be empty. -/
theorem wpList_append_intsE {w : World} {ops : Array Oper} {rest : List Oper} {o : Oper} {a : Act} {Q : Exit → Act → World → Prop} (hgd : o.guard = none) (s x : Operand)
    (ho : o.op = .call { callee := .builtin .append, args := #[s, x], argTypes := #[38, 38] })
    (base G : Nat) (hs : a.eval s = .slice (some ⟨G, 0, none⟩) 0 0) (hown : OwnJ w base (.slice (some ⟨G, 0, none⟩) 0 0) []) (xv : Value) (ys : List Int) (hxv : a.eval x = xv) (hx : IA w xv ys) (hl : ys.length ≤ 3300000) (hbase : base ≤ w.heap.size)
    (h : ∀ (g cap : Nat) (w' : World), OwnJ w' base (.slice (some ⟨g, 0, none⟩) ys.length cap) ys → w.grownBy w' (some G) → wpList Try.prog ops Q rest (a.put o.dst (.slice (some ⟨g, 0, none⟩) ys.length cap)) w') : wpList Try.prog ops Q (o :: rest) a w := by
  obtain ⟨i0, hi, hz0, hz1, hz2⟩ := info_parts infoInt64
  obtain ⟨b0, off, c, rfl, _, c1⟩ := hx
  refine wpList_append_own w hgd s x 38 ho base 2 i0 _ 1 8 Try.underlying38 hi hz0 hz1 hz2 rfl (by decide) (.slice (some ⟨G, 0, none⟩) 0 0) 0 [] hs hown ⟨b0, off, none⟩ ys.length c (ys.map (Value.int .i64)) hxv (by simp) ?_ ?_ (by unfold maxLen; omega) (by omega) hbase ?_
  · intro j u hj
    rw [addr_at]
    rw [List.getElem?_map] at hj
    have hjl : j < ys.length := by
      rcases Nat.lt_or_ge j ys.length with h1 | h1
      · exact h1
      · rw [List.getElem?_eq_none h1] at hj; cases hj
    have := c1 j hjl
    rw [List.getElem?_eq_getElem hjl] at hj this
    simp at hj
    rw [← hj]
    simpa using this
  · intro u hu
    obtain ⟨y, _, rfl⟩ := List.mem_map.1 hu
    rfl
  · intro v' w' hown' hg hiff
    rw [Nat.zero_add, List.nil_append] at hown'
    have hf : ∃ g cap, v' = .slice (some ⟨g, 0, none⟩) ys.length cap := by
      rcases hown'.2 with ⟨h1, _⟩ | ⟨g, cap, cur, e, _⟩
      · have := hiff.1 h1
        simp at this
      · exact ⟨g, cap, e⟩
    obtain ⟨g, cap, rfl⟩ := hf
    refine h g cap w' ?_ hg
    unfold OwnJ
    exact hown'
theorem OwnJ.ia {W : World} {base g n cap : Nat} {zs : List Int} (h : OwnJ W base (.slice (some ⟨g, 0, none⟩) n cap) zs) (hl : zs.length ≤ 1100000) : IA W (.slice (some ⟨g, 0, none⟩) n cap) zs := by
  have hib := h.ib hl
  rcases hib.2 with ⟨a, c, e, hnil⟩ | ⟨b, off, cap', e, h1, h2⟩
  · subst hnil
    simp at e
    rcases h.2 with ⟨h1, _⟩ | ⟨g', cap', cur, h1, _, h2, _⟩
    · simp at h1
    · simp at h1
      obtain ⟨rfl, _⟩ := h1
      refine ⟨g, 0, cap, by rw [e.2.1]; rfl, (Array.getElem?_eq_some_iff.1 h2).1, fun k hk => by simp at hk⟩
  · simp at e
    obtain ⟨⟨rfl, rfl⟩, rfl, rfl⟩ := e
    exact ⟨g, 0, cap, rfl, h1, h2⟩
set_option maxRecDepth 100000 in
theorem l01Own_any (s : Value) (zs : List Int) (w : World) (h : IA w s zs) (hl : zs.length ≤ 1100000) : Calls Try.prog 57 #[s] w (fun e w' => ∃ g cap, e = .returned (.slice (some ⟨g, 0, none⟩) zs.length cap) ∧ OwnJ w' w.heap.size (.slice (some ⟨g, 0, none⟩) zs.length cap) zs ∧ Below w.heap.size w w') := by
  have hform : ∃ a c, s = .slice a zs.length c := by obtain ⟨b, off, cap, rfl, _⟩ := h; exact ⟨_, _, rfl⟩
  have H := Lib.hid h
  obtain ⟨a, c, rfl⟩ := hform
  clear h
  have ho0 := OwnJ.new0 w (base := w.heap.size) (Nat.le_refl _)
  have hB0 : Below w.heap.size w (w.alloc (.cells #[] 2)) := (Below.refl _ _).alloc (Nat.le_refl _) _
  have HO0 := Lib.hid ho0
  have HB0 := Lib.hid hB0
  clear ho0 hB0
  go_enter Try.func57, Try.ntmps57
  go_wp2_with (at_builtin; refine wpList_append_intsE rfl _ _ rfl w.heap.size w.heap.size rfl HO0.out _ zs rfl (H.out.below HB0.out (Nat.le_refl _)) (by omega) (by simp) ?_; intro g cap w4 hO4 hg4)
  go_ret
  exact ⟨g, cap, rfl, hO4, HB0.out.grown hg4 (by simp) (fun r e => by cases e; exact Nat.le_refl _)⟩
end Go.Proofs.Ytahgialnhomefaa

namespace Go.Proofs.Ytahgialnhomefaa
open Go.RowKit Go.Maps
theorem ResI_low {w : World} {lo lo' hi : Nat} {s : Value} {zs : List Int} (h : ResI w lo hi s zs) (hl : lo' ≤ lo) : ResI w lo' hi s zs := by
  rcases h with h | ⟨g, cap, h1, h2, h3, h4⟩
  · exact .inl h
  · exact .inr ⟨g, cap, h1, by omega, h3, h4⟩
/-- The model's table as rows at their places. -/
theorem l09Tab_ssr {W : World} {lo n : Nat} {P : Nat → Nat → Int} {u : Value} {us : List Value} (h : TabL W lo u us (rowsTo n P n)) (h3 : 0 < n) (h15 : n ≤ 1000) : ∃ G c gs caps, u = .slice (some ⟨G, 0, none⟩) n c ∧ lo ≤ G ∧ SSR W lo G gs caps n (rowT n P) := by
  obtain ⟨G, c, gs, caps, h1, h2, h3'⟩ := h.ssr (by rw [rowsTo_len]; exact h3) (fun k hk => by rw [rowsTo_len] at hk; rw [rowsTo_at n P hk, rowT_len]; omega)
  rw [rowsTo_len] at h1 h3'
  exact ⟨G, c, gs, caps, h1, h2, h3'.congr fun k hk => rowsTo_at n P hk⟩
set_option maxRecDepth 100000 in
set_option maxHeartbeats 1000000 in
theorem specTurnOf_any (v : Int) (s : Value) (bs : List Blk) (a : Int) (w : World) (h : SB w s bs) :
    Calls Try.prog 27 #[.agg #[.int .i64 v, s], .int .i64 a] w (RI (turnF v bs a) w) := by
  have hs := h.slice
  have hc0 : ptsN v v bs [a] = pcode 0 v bs [a] := by rw [pcode_ptsN, show v + ((0 : Nat) : Int) = v by omega]
  have HPC := Lib.hid fun t W (hb : Below w.heap.size w W) ht => l09Points_any v v s bs t [a] W (h.below hb (Nat.le_refl _)) ht (fun hi => by have := sys_size hi; omega)
  rw [hc0] at HPC
  clear hc0
  by_cases hc : pcode 0 v bs [a] = 0
  · obtain ⟨hi, hf, hz⟩ := pcode_zero hc
    obtain ⟨hv3, hv15, _⟩ := sys_size hi
    obtain ⟨n, rfl⟩ : ∃ n : Nat, v = (n : Int) := ⟨v.toNat, by omega⟩
    have ha := hz a (by simp)
    obtain ⟨p, rfl⟩ : ∃ p : Nat, a = (p : Int) := ⟨a.toNat, by omega⟩
    have HV := Lib.hid (show turnF (n : Int) bs (p : Int) = (rowT n (prd 0 n bs) p, 0) by
      unfold turnF
      rw [if_pos hc]
      rfl)
    rw [HV.out]
    rw [hc] at HPC
    have HPT := Lib.hid fun W (hb : Below w.heap.size w W) => l09Table_any n s bs W (h.below hb (Nat.le_refl _)) hi hf
    have hp1 : p < n := by omega
    have g0 : (0 : Int) ≤ (p : Int) := by omega
    have g1 : (p : Int) < (n : Int) := by omega
    have hn3 : 0 < n := by omega
    have hn15 : n ≤ 1000 := by omega
    clear h hc hi hf hz ha hv3 hv15 HV
    obtain ⟨a0, c0, rfl⟩ := hs
    have HPX := Lib.hid (HPC.out _ ((w.alloc (.cells #[.int .i64 (n : Int), .slice a0 bs.length c0] 30)).alloc (.cells #[.int .i64 (p : Int)] 2)) (((Below.refl _ _).alloc (Nat.le_refl _) _).alloc (by simp) _) (lit_ib1 (w.alloc (.cells #[.int .i64 (n : Int), .slice a0 bs.length c0] 30)) p))
    rw [show ∀ o, (w.alloc o).heap.size = w.heap.size + 1 from fun o => by simp] at HPX
    obtain ⟨R, hR⟩ : ∃ R, R = prd 0 n bs := ⟨_, rfl⟩
    rw [← hR] at HPT ⊢
    clear HPC hR
    go_enter Try.func27, Try.ntmps27
    go_wp2_with fail
    refine HPX.out.mono ?_
    rintro e w1 ⟨rfl, hb1⟩
    have hB1 : Below w.heap.size w w1 := (((Below.refl _ _).alloc (Nat.le_refl _) _).alloc (by simp) _).trans (hb1.mono (by simp <;> omega))
    have d0 : w1.cell? ⟨w.heap.size, 0, none⟩ = some (.int .i64 (n : Int)) := (hb1.cell (p := ⟨w.heap.size, 0, none⟩) (by simp <;> omega)).trans (by simp [go_sem])
    have d1 : w1.cell? ⟨w.heap.size, 1, none⟩ = some (.slice a0 bs.length c0) := (hb1.cell (p := ⟨w.heap.size, 1, none⟩) (by simp <;> omega)).trans (by simp [go_sem])
    clear hb1
    go_wp2_with fail
    refine (HPT.out _ hB1).mono ?_
    rintro e w2 ⟨u, us, rfl, hT, hb2⟩
    have hB2 := hB1.trans (hb2.mono hB1.size)
    obtain ⟨G, c, gs, caps, rfl, _, hS⟩ := l09Tab_ssr hT hn3 hn15
    have e1 := hS.cell p hp1
    rw [rowT_len] at e1
    have hz2 := hB2.size
    have HR := Lib.hid (hS.row p hp1)
    have HIA : Hid (IA w2 (.slice (some ⟨gs p, 0, none⟩) n (caps p)) (rowT n R p)) := Lib.hid ⟨gs p, 0, caps p, by rw [rowT_len], HR.out.lt, HR.out.at_⟩
    have hll : (rowT n R p).length ≤ 1100000 := by rw [rowT_len]; omega
    have HOW := Lib.hid (l01Own_any _ _ w2 HIA.out hll)
    clear hb2 hS hT HR HIA
    go_wp2_with fail
    refine HOW.out.mono ?_
    rintro e w3 ⟨g, cap, rfl, hO, hb3⟩
    have hres := hO.res hll
    have hB3 := hB2.trans (hb3.mono hz2)
    have HRES := Lib.hid hres
    clear hO hb3 hres
    go_wp2
    go_ret2
    exact ⟨_, rfl, ResI_low HRES.out (by omega), hB3⟩
  · have HV := Lib.hid (show turnF v bs a = ([], pcode 0 v bs [a]) by
      unfold turnF
      rw [if_neg hc])
    rw [HV.out]
    obtain ⟨μ, hμ⟩ : ∃ μ, μ = pcode 0 v bs [a] := ⟨_, rfl⟩
    rw [← hμ] at hc HPC ⊢
    have q1 : (μ != 0) = true := by simpa using hc
    clear h hμ hc HV
    obtain ⟨a0, c0, rfl⟩ := hs
    have HPX := Lib.hid (HPC.out _ ((w.alloc (.cells #[.int .i64 v, .slice a0 bs.length c0] 30)).alloc (.cells #[.int .i64 a] 2)) (((Below.refl _ _).alloc (Nat.le_refl _) _).alloc (by simp) _) (lit_ib1 (w.alloc (.cells #[.int .i64 v, .slice a0 bs.length c0] 30)) a))
    rw [show ∀ o, (w.alloc o).heap.size = w.heap.size + 1 from fun o => by simp] at HPX
    clear HPC
    go_enter Try.func27, Try.ntmps27
    go_wp2_with fail
    refine HPX.out.mono ?_
    rintro e w1 ⟨rfl, hb1⟩
    have hB1 : Below w.heap.size w w1 := (((Below.refl _ _).alloc (Nat.le_refl _) _).alloc (by simp) _).trans (hb1.mono (by simp <;> omega))
    clear hb1
    go_wp2
    go_ret2
    exact ⟨_, rfl, .inl ⟨rfl, _, _, rfl⟩, hB1⟩
end Go.Proofs.Ytahgialnhomefaa

namespace Go.Proofs.Ytahgialnhomefaa
open Go.RowKit Go.Maps
def trI (R : Nat → Nat → Int) (a b c : Nat) : Bool := R (R a b).toNat c == R a (R b c).toNat
def cntC (R : Nat → Nat → Int) (a b : Nat) : Nat → Nat
  | 0 => 0
  | c + 1 => cntC R a b c + if trI R a b c then 1 else 0
def cntB2 (R : Nat → Nat → Int) (N a : Nat) : Nat → Nat
  | 0 => 0
  | b + 1 => cntB2 R N a b + cntC R a b N
def cntA (R : Nat → Nat → Int) (N : Nat) : Nat → Nat
  | 0 => 0
  | a + 1 => cntA R N a + cntB2 R N a N
theorem cntC_le (R : Nat → Nat → Int) (a b : Nat) : ∀ c, cntC R a b c ≤ c
  | 0 => Nat.le_refl _
  | c + 1 => by
    have := cntC_le R a b c
    unfold cntC
    split <;> omega
theorem cntB2_le (R : Nat → Nat → Int) (N a : Nat) : ∀ b, cntB2 R N a b ≤ b * N
  | 0 => Nat.zero_le _
  | b + 1 => by
    have := cntB2_le R N a b
    have := cntC_le R a b N
    unfold cntB2
    rw [Nat.add_mul]; omega
theorem cntA_le (R : Nat → Nat → Int) (N : Nat) : ∀ a, cntA R N a ≤ a * (N * N)
  | 0 => Nat.zero_le _
  | a + 1 => by
    have := cntA_le R N a
    have := cntB2_le R N a N
    unfold cntA
    rw [Nat.add_mul]; omega
theorem mul16 {a N : Nat} (ha : a ≤ 16) (hN : N ≤ 16) : a * N ≤ 256 := Nat.le_trans (Nat.mul_le_mul ha hN) (by decide)
theorem mul256 {a M : Nat} (ha : a ≤ 16) (hM : M ≤ 256) : a * M ≤ 4096 := Nat.le_trans (Nat.mul_le_mul ha hM) (by decide)
/-- How many triples were met so far. -/
theorem cntT_le (R : Nat → Nat → Int) {N a b c : Nat} (hN : N ≤ 16) (ha : a ≤ N) (hb : b ≤ N) (hc : c ≤ N) : cntA R N a + cntB2 R N a b + cntC R a b c ≤ 5000 := by
  have h1 := cntA_le R N a
  have h2 := cntB2_le R N a b
  have h3 := cntC_le R a b c
  have h4 := mul16 (a := b) (N := N) (by omega) hN
  have h5 := mul16 (a := N) (N := N) hN hN
  have h6 := mul256 (a := a) (M := N * N) (by omega) h5
  omega
/-- What the table holds are its own places. -/
def InT (N : Nat) (R : Nat → Nat → Int) : Prop := ∀ a b, a < N → b < N → 0 ≤ R a b ∧ R a b < (N : Int)
/-- The seven cells that a triple reads. -/
theorem triple_cells {w : World} {lo G : Nat} {gs caps : Nat → Nat} {N : Nat} {R : Nat → Nat → Int} (h : SSR w lo G gs caps N (rowT N R)) (hR : InT N R) {a b c : Nat} (ha : a < N) (hb : b < N) (hc : c < N) :
    ∃ x z : Nat, ∃ p q : Int, x < N ∧ z < N ∧ R a b = (x : Int) ∧ R b c = (z : Int) ∧ trI R a b c = (p == q) ∧
      w.cell? ⟨G, a, none⟩ = some (.slice (some ⟨gs a, 0, none⟩) N (caps a)) ∧ w.cell? ⟨G, b, none⟩ = some (.slice (some ⟨gs b, 0, none⟩) N (caps b)) ∧ w.cell? ⟨G, x, none⟩ = some (.slice (some ⟨gs x, 0, none⟩) N (caps x)) ∧
      w.cell? ⟨gs a, b, none⟩ = some (.int .i64 (x : Int)) ∧ w.cell? ⟨gs b, c, none⟩ = some (.int .i64 (z : Int)) ∧ w.cell? ⟨gs x, c, none⟩ = some (.int .i64 p) ∧ w.cell? ⟨gs a, z, none⟩ = some (.int .i64 q) := by
  obtain ⟨x0, x1⟩ := hR a b ha hb
  obtain ⟨z0, z1⟩ := hR b c hb hc
  obtain ⟨x, hx⟩ : ∃ x : Nat, R a b = (x : Int) := ⟨(R a b).toNat, by omega⟩
  obtain ⟨z, hz⟩ : ∃ z : Nat, R b c = (z : Int) := ⟨(R b c).toNat, by omega⟩
  have hxN : x < N := by omega
  have hzN : z < N := by omega
  obtain ⟨h1, h2⟩ := h.get ha hb
  obtain ⟨h3, h4⟩ := h.get hb hc
  obtain ⟨h5, h6⟩ := h.get hxN hc
  obtain ⟨_, h7⟩ := h.get ha hzN
  rw [hx] at h2
  rw [hz] at h4
  exact ⟨x, z, R x c, R a z, hxN, hzN, hx, hz, by unfold trI; rw [hx, hz]; rfl, h1, h3, h5, h2, h4, h6, h7⟩
set_option maxRecDepth 100000 in
set_option maxHeartbeats 4000000 in
theorem l09Triples_any (G lo : Nat) (gs caps : Nat → Nat) (N cp : Nat) (R : Nat → Nat → Int) (w : World) (h : SSR w lo G gs caps N (rowT N R)) (hR : InT N R) (hN : N ≤ 16) :
    Calls Try.prog 52 #[.slice (some ⟨G, 0, none⟩) N cp] w (RV (.int .i64 (cntA R N N : Int)) w) := by
  have HS := Lib.hid h
  have HR := Lib.hid hR
  have HLE := Lib.hid fun a b c (ha : a ≤ N) (hb : b ≤ N) (hc : c ≤ N) => cntT_le R hN ha hb hc
  clear h hR
  go_enter Try.func52, Try.ntmps52
  go_wp2
  go_loopw [3, 4] (fun o i wr => ∃ a : Nat, a ≤ N ∧ i = .int .i64 a ∧ o = .int .i64 (cntA R N a : Int) ∧ Below w.heap.size w wr) (fun _ i _ => N - (intOf i).toNat)
  case atStart => exact ⟨0, Nat.zero_le _, rfl, rfl, Below.refl _ _⟩
  case round =>
    obtain ⟨a, ha, rfl, rfl, hB⟩ := hrel
    have HB := Lib.hid hB
    clear hB
    by_cases hal : a < N
    · have a0 : (0 : Int) ≤ (a : Int) := by omega
      have a1 : (a : Int) < (N : Int) := by omega
      go_wp2
      go_loopw [3, 5] (fun o i wr => ∃ b : Nat, b ≤ N ∧ i = .int .i64 b ∧ o = .int .i64 ((cntA R N a + cntB2 R N a b : Nat) : Int) ∧ Below w.heap.size w wr) (fun _ i _ => N - (intOf i).toNat)
      case atStart => exact ⟨0, Nat.zero_le _, rfl, rfl, HB.out⟩
      case round =>
        obtain ⟨b, hb, rfl, rfl, hB⟩ := hrel
        have HB := Lib.hid hB
        clear hB
        by_cases hbl : b < N
        · have b0 : (0 : Int) ≤ (b : Int) := by omega
          have b1 : (b : Int) < (N : Int) := by omega
          go_wp2
          go_loopw [3, 6] (fun o i wr => ∃ c : Nat, c ≤ N ∧ i = .int .i64 c ∧ o = .int .i64 ((cntA R N a + cntB2 R N a b + cntC R a b c : Nat) : Int) ∧ Below w.heap.size w wr) (fun _ i _ => N - (intOf i).toNat)
          case atStart => exact ⟨0, Nat.zero_le _, rfl, rfl, HB.out⟩
          case round =>
            obtain ⟨c, hc, rfl, rfl, hB⟩ := hrel
            by_cases hcl : c < N
            · obtain ⟨x, z, p, q, hx, hz, _, _, ht, k1, k2, k3, k4, k5, k6, k7⟩ := triple_cells (HS.out.below hB (Nat.le_refl _)) HR.out hal hbl hcl
              have hle := HLE.out a b c ha hb hc
              have HT := Lib.hid (show cntA R N a + cntB2 R N a b + cntC R a b (c + 1) = cntA R N a + cntB2 R N a b + cntC R a b c + if (p == q) = true then 1 else 0 by rw [← ht, cntC]; exact (Nat.add_assoc _ _ _).symm)
              obtain ⟨M, hM⟩ : ∃ M, M = cntA R N a + cntB2 R N a b + cntC R a b c := ⟨_, rfl⟩
              rw [← hM] at HT hle ⊢
              have wm : IntKind.i64.wrap ((M : Int) + 1) = (M : Int) + 1 := IntWalk.i64_in _ (by omega)
              have c0 : (0 : Int) ≤ (c : Int) := by omega
              have c1 : (c : Int) < (N : Int) := by omega
              have x0 : (0 : Int) ≤ (x : Int) := by omega
              have x1 : (x : Int) < (N : Int) := by omega
              have z0 : (0 : Int) ≤ (z : Int) := by omega
              have z1 : (z : Int) < (N : Int) := by omega
              have HB2 := Lib.hid hB
              clear hM ht hx hz hB
              have k1 := cell_regrown k1
              have k2 := cell_regrown k2
              have k3 := cell_regrown k3
              have k4 := cell_regrown k4
              have k5 := cell_regrown k5
              have k6 := cell_regrown k6
              have k7 := cell_regrown k7
              obtain ⟨β, hβ⟩ : ∃ β, (p == q) = β := ⟨_, rfl⟩
              rw [hβ] at HT
              cases β with
              | false =>
                go_wp2
                refine wp_region_quiet_below (by kernel_rfl) (by kernel_rfl) ?_
                repeat (go_big_quiet_step (fail))
                refine wpQuiet_nil ?_
                intro _ hw'
                obtain ⟨⟨dq, osq⟩, hw''⟩ := hw'
                subst hw''
                have hbq := below_regrown wr dq osq
                go_wp2
                go_roundw
                case rel => exact ⟨c + 1, by omega, by go_num, by rw [HT.out]; rfl, HB2.out.trans (hbq.mono HB2.out.size)⟩
                case measure => simp [intOf]; omega
              | true =>
                go_wp2
                refine wp_region_quiet_below (by kernel_rfl) (by kernel_rfl) ?_
                repeat (go_big_quiet_step (fail))
                refine wpQuiet_nil ?_
                intro _ hw'
                obtain ⟨⟨dq, osq⟩, hw''⟩ := hw'
                subst hw''
                have hbq := below_regrown wr dq osq
                go_wp2
                go_roundw
                case rel => exact ⟨c + 1, by omega, by go_num, by rw [HT.out]; first | rfl | (simp; done) | go_num, HB2.out.trans (hbq.mono HB2.out.size)⟩
                case measure => simp [intOf]; omega
            · have e : c = N := by omega
              subst e
              have HE := Lib.hid (show cntA R c a + cntB2 R c a b + cntC R a b c = cntA R c a + cntB2 R c a (b + 1) by rw [cntB2]; omega)
              rw [HE.out]
              go_wp2
              go_roundw
              case rel => exact ⟨b + 1, by omega, by go_num, rfl, hB⟩
              case measure => simp [intOf]; omega
        · have e : b = N := by omega
          subst e
          have HE := Lib.hid (show cntA R b a + cntB2 R b a b = cntA R b (a + 1) by rw [cntA])
          rw [HE.out]
          go_wp2
          go_roundw
          case rel => exact ⟨a + 1, by omega, by go_num, rfl, HB.out⟩
          case measure => simp [intOf]; omega
    · have e : a = N := by omega
      subst e
      go_wp2
      go_ret
      exact RV_of rfl HB.out
end Go.Proofs.Ytahgialnhomefaa

namespace Go.Proofs.Ytahgialnhomefaa
open Go.RowKit Go.Maps
theorem prd_in {κ n : Nat} (hκ : κ = 0 ∨ κ = 1) {bs : List Blk} (h : isSysImpl (n : Int) bs = true) (hf : fullB (n : Int) bs = true) : InT (n + κ) (prd κ n bs) := by
  intro a b ha hb
  rcases hκ with rfl | rfl
  · have := prd0_range h hf (a := a) (b := b) (by omega) (by omega)
    omega
  · unfold prd
    rw [if_neg (by decide)]
    by_cases hab : a = b
    · rw [if_pos hab]; omega
    · rw [if_neg hab]
      by_cases han : a = n
      · rw [if_pos han]; omega
      · rw [if_neg han]
        by_cases hbn : b = n
        · rw [if_pos hbn]; omega
        · rw [if_neg hbn, show tabN bs a b = third1 bs (a : Int) (b : Int) from tab_third h hf (by omega) (by omega) (by omega)]
          have := (tri_third h hf (a := (a : Int)) (b := (b : Int)) (by omega) (by omega) (by omega)).range h
          omega
def asF (κ : Nat) (v : Int) (bs : List Blk) : Int × Int := if fullC v bs = 0 then ((cntA (prd κ v.toNat bs) (v.toNat + κ) (v.toNat + κ) : Int), 0) else (0, fullC v bs)
def asV (κ : Nat) (v : Int) (bs : List Blk) : Value := .tuple #[.int .i64 (asF κ v bs).1, .int .i64 (asF κ v bs).2]
theorem fullC_zero {v : Int} {bs : List Blk} (h : fullC v bs = 0) : isSysImpl v bs = true ∧ fullB v bs = true := by
  unfold fullC at h
  cases hi : isSysImpl v bs with
  | false => rw [hi] at h; simp at h
  | true =>
    cases hf : fullB v bs with
    | false => rw [hi, hf] at h; simp at h
    | true => exact ⟨rfl, rfl⟩
/-- The seven cells. -/
def Tri7 (G a b x ga gb gx N ca cb cx c z : Nat) (p q : Int) (W : World) : Prop :=
  W.cell? ⟨G, a, none⟩ = some (.slice (some ⟨ga, 0, none⟩) N ca) ∧ W.cell? ⟨G, b, none⟩ = some (.slice (some ⟨gb, 0, none⟩) N cb) ∧ W.cell? ⟨G, x, none⟩ = some (.slice (some ⟨gx, 0, none⟩) N cx) ∧
      W.cell? ⟨ga, b, none⟩ = some (.int .i64 (x : Int)) ∧ W.cell? ⟨gb, c, none⟩ = some (.int .i64 (z : Int)) ∧ W.cell? ⟨gx, c, none⟩ = some (.int .i64 p) ∧ W.cell? ⟨ga, z, none⟩ = some (.int .i64 q)
set_option maxRecDepth 100000 in
set_option maxHeartbeats 8000000 in
theorem countAssociative_any (κ : Nat) (hκ : κ = 0 ∨ κ = 1) (v : Int) (s : Value) (bs : List Blk) (w : World) (h : SB w s bs) :
    Calls Try.prog 53 #[.agg #[.int .i64 v, s], .int .i64 (κ : Int)] w (RV (asV κ v bs) w) := by
  have hs := h.slice
  have HFC := Lib.hid fun B W (hb : Below w.heap.size w W) c0 c1 => fullCode_one B v s bs W (h.below hb (Nat.le_refl _)) c0 c1
  by_cases hc : fullC v bs = 0
  · obtain ⟨hi, hf⟩ := fullC_zero hc
    obtain ⟨hv3, hv15, _⟩ := sys_size hi
    obtain ⟨n, rfl⟩ : ∃ n : Nat, v = (n : Int) := ⟨v.toNat, by omega⟩
    have HV := Lib.hid (show asV κ (n : Int) bs = .tuple #[.int .i64 (cntA (prd κ n bs) (n + κ) (n + κ) : Int), .int .i64 0] by
      unfold asV asF
      rw [if_pos hc]
      rfl)
    rw [HV.out]
    rw [hc] at HFC
    have HPT := Lib.hid fun W (hb : Below w.heap.size w W) => productTable_any κ hκ n s bs W (h.below hb (Nat.le_refl _)) hi
    have HR := Lib.hid (prd_in hκ hi hf)
    obtain ⟨N, hN⟩ : ∃ N, N = n + κ := ⟨_, rfl⟩
    obtain ⟨R, hRR⟩ : ∃ R, R = prd κ n bs := ⟨_, rfl⟩
    rw [← hN, ← hRR] at HPT HR ⊢
    have hN16 : N ≤ 16 := by omega
    have HLE := Lib.hid fun a b c (ha : a ≤ N) (hb : b ≤ N) (hc : c ≤ N) => cntT_le R hN16 ha hb hc
    have OT : Hid (∀ W, Calls Try.prog 78 #[.bool true] W (RS (.int .i64 1) W)) := Lib.hid fun W => oneIf_any true W
    have OF : Hid (∀ W, Calls Try.prog 78 #[.bool false] W (RS (.int .i64 0) W)) := Lib.hid fun W => oneIf_any false W
    clear h hc hi hf hN hRR hv3 hv15 hκ HV
    obtain ⟨a0, c0, rfl⟩ := hs
    have HFX := Lib.hid (HFC.out (w.heap.size + 1) ((w.alloc (.cells #[.int .i64 (n : Int), .slice a0 bs.length c0] 30)).alloc (.cells #[.int .i64 (n : Int), .slice a0 bs.length c0] 30)) (((Below.refl _ _).alloc (Nat.le_refl _) _).alloc (by simp) _) (by simp [go_sem]) (by simp [go_sem]))
    clear HFC
    go_enter Try.func53, Try.ntmps53
    go_wp2_with fail
    refine HFX.out.mono ?_
    rintro e w1 ⟨rfl, hb1⟩
    have hB1 : Below w.heap.size w w1 := (((Below.refl _ _).alloc (Nat.le_refl _) _).alloc (by simp) _).trans (hb1.mono (by simp <;> omega))
    have d0 : w1.cell? ⟨w.heap.size, 0, none⟩ = some (.int .i64 (n : Int)) := (hb1.cell (p := ⟨w.heap.size, 0, none⟩) (by simp <;> omega)).trans (by simp [go_sem])
    have d1 : w1.cell? ⟨w.heap.size, 1, none⟩ = some (.slice a0 bs.length c0) := (hb1.cell (p := ⟨w.heap.size, 1, none⟩) (by simp <;> omega)).trans (by simp [go_sem])
    clear hb1 HFX
    go_wp2_with fail
    refine (HPT.out _ hB1).mono ?_
    rintro e w2 ⟨G, gs, caps, rfl, _, hb2, hS⟩
    have HB0 := Lib.hid (hB1.trans (hb2.mono hB1.size))
    have HS := Lib.hid hS
    clear hb2 hS hB1 d0 d1
    go_wp2_with fail
    go_loopw [8, 23] (fun o i wr => ∃ a : Nat, a ≤ N ∧ i = .int .i64 a ∧ o = .int .i64 (cntA R N a : Int) ∧ Below w2.heap.size w2 wr) (fun _ i _ => N - (intOf i).toNat)
    case atStart => exact ⟨0, Nat.zero_le _, rfl, rfl, Below.refl _ _⟩
    case round =>
      obtain ⟨a, ha, rfl, rfl, hB⟩ := hrel
      have HB := Lib.hid hB
      clear hB
      by_cases hal : a < N
      · have a0' : (0 : Int) ≤ (a : Int) := by omega
        have a1' : (a : Int) < (N : Int) := by omega
        go_wp2
        go_loopw [8, 28] (fun o i wr => ∃ b : Nat, b ≤ N ∧ i = .int .i64 b ∧ o = .int .i64 ((cntA R N a + cntB2 R N a b : Nat) : Int) ∧ Below w2.heap.size w2 wr) (fun _ i _ => N - (intOf i).toNat)
        case atStart => exact ⟨0, Nat.zero_le _, rfl, rfl, HB.out⟩
        case round =>
          obtain ⟨b, hb, rfl, rfl, hB⟩ := hrel
          have HB := Lib.hid hB
          clear hB
          by_cases hbl : b < N
          · have b0 : (0 : Int) ≤ (b : Int) := by omega
            have b1 : (b : Int) < (N : Int) := by omega
            go_wp2
            go_loopw [8, 33] (fun o i wr => ∃ c : Nat, c ≤ N ∧ i = .int .i64 c ∧ o = .int .i64 ((cntA R N a + cntB2 R N a b + cntC R a b c : Nat) : Int) ∧ Below w2.heap.size w2 wr) (fun _ i _ => N - (intOf i).toNat)
            case atStart => exact ⟨0, Nat.zero_le _, rfl, rfl, HB.out⟩
            case round =>
              obtain ⟨c, hc, rfl, rfl, hB⟩ := hrel
              by_cases hcl : c < N
              · obtain ⟨x, z, p, q, hx, hz, _, _, ht, k1, k2, k3, k4, k5, k6, k7⟩ := triple_cells (HS.out.below hB (Nat.le_refl _)) HR.out hal hbl hcl
                have hle := HLE.out a b c ha hb hc
                have HT := Lib.hid (show cntA R N a + cntB2 R N a b + cntC R a b (c + 1) = cntA R N a + cntB2 R N a b + cntC R a b c + if (p == q) = true then 1 else 0 by rw [← ht, cntC]; exact (Nat.add_assoc _ _ _).symm)
                obtain ⟨M, hM⟩ : ∃ M, M = cntA R N a + cntB2 R N a b + cntC R a b c := ⟨_, rfl⟩
                rw [← hM] at HT hle ⊢
                have wm : IntKind.i64.wrap ((M : Int) + 1) = (M : Int) + 1 := IntWalk.i64_in _ (by omega)
                have wm0 : IntKind.i64.wrap (M : Int) = (M : Int) := IntWalk.i64_in _ (by omega)
                have c0 : (0 : Int) ≤ (c : Int) := by omega
                have c1 : (c : Int) < (N : Int) := by omega
                have x0 : (0 : Int) ≤ (x : Int) := by omega
                have x1 : (x : Int) < (N : Int) := by omega
                have z0 : (0 : Int) ≤ (z : Int) := by omega
                have z1 : (z : Int) < (N : Int) := by omega
                have HB2 := Lib.hid hB
                clear hM ht hx hz hB
                obtain ⟨β, hβ⟩ : ∃ β, (p == q) = β := ⟨_, rfl⟩
                rw [hβ] at HT
                obtain ⟨ga, hga⟩ : ∃ ga, ga = gs a := ⟨_, rfl⟩
                obtain ⟨gb, hgb⟩ : ∃ gb, gb = gs b := ⟨_, rfl⟩
                obtain ⟨gx, hgx⟩ : ∃ gx, gx = gs x := ⟨_, rfl⟩
                obtain ⟨ca, hca⟩ : ∃ ca, ca = caps a := ⟨_, rfl⟩
                obtain ⟨cb, hcb⟩ : ∃ cb, cb = caps b := ⟨_, rfl⟩
                obtain ⟨cx, hcx⟩ : ∃ cx, cx = caps x := ⟨_, rfl⟩
                rw [← hga, ← hca] at k1
                rw [← hgb, ← hcb] at k2
                rw [← hgx, ← hcx] at k3
                rw [← hga] at k4 k7
                rw [← hgb] at k5
                rw [← hgx] at k6
                clear hga hgb hgx hca hcb hcx
                cases β with
                | false =>
                  go_wp2_with fail
                  go_region_held3 (fun W => W.cell? ⟨G, a, none⟩ = some (.slice (some ⟨ga, 0, none⟩) N ca) ∧ W.cell? ⟨G, b, none⟩ = some (.slice (some ⟨gb, 0, none⟩) N cb) ∧ W.cell? ⟨G, x, none⟩ = some (.slice (some ⟨gx, 0, none⟩) N cx) ∧ W.cell? ⟨ga, b, none⟩ = some (.int .i64 (x : Int)) ∧ W.cell? ⟨gb, c, none⟩ = some (.int .i64 (z : Int)) ∧ W.cell? ⟨gx, c, none⟩ = some (.int .i64 p) ∧ W.cell? ⟨ga, z, none⟩ = some (.int .i64 q))
                    (first
                      | exact ⟨k1, k2, k3, k4, k5, k6, k7⟩
                      | go_keep)
                    (first | (go_at_call 78; refine (OF.out _).mono ?_; rintro e w6 ⟨rfl, rfl⟩))
                  all_goals
                    go_wp2_with fail
                    go_roundw
                    case rel => exact ⟨c + 1, by omega, by go_num, by rw [HT.out]; rfl, HB2.out.drew⟩
                    case measure => simp [intOf]; omega
                | true =>
                  go_wp2_with fail
                  go_region_held3 (fun W => W.cell? ⟨G, a, none⟩ = some (.slice (some ⟨ga, 0, none⟩) N ca) ∧ W.cell? ⟨G, b, none⟩ = some (.slice (some ⟨gb, 0, none⟩) N cb) ∧ W.cell? ⟨G, x, none⟩ = some (.slice (some ⟨gx, 0, none⟩) N cx) ∧ W.cell? ⟨ga, b, none⟩ = some (.int .i64 (x : Int)) ∧ W.cell? ⟨gb, c, none⟩ = some (.int .i64 (z : Int)) ∧ W.cell? ⟨gx, c, none⟩ = some (.int .i64 p) ∧ W.cell? ⟨ga, z, none⟩ = some (.int .i64 q))
                    (first
                      | exact ⟨k1, k2, k3, k4, k5, k6, k7⟩
                      | go_keep)
                    (first | (go_at_call 78; refine (OT.out _).mono ?_; rintro e w6 ⟨rfl, rfl⟩))
                  all_goals
                    go_wp2_with fail
                    go_roundw
                    case rel => exact ⟨c + 1, by omega, by go_num, by rw [HT.out]; first | rfl | (simp; done) | go_num, HB2.out.drew⟩
                    case measure => simp [intOf]; omega
              · have e : c = N := by omega
                subst e
                have HE := Lib.hid (show cntA R c a + cntB2 R c a b + cntC R a b c = cntA R c a + cntB2 R c a (b + 1) by rw [cntB2]; omega)
                rw [HE.out]
                go_wp2
                go_roundw
                case rel => exact ⟨b + 1, by omega, by go_num, rfl, hB⟩
                case measure => simp [intOf]; omega
          · have e : b = N := by omega
            subst e
            have HE := Lib.hid (show cntA R b a + cntB2 R b a b = cntA R b (a + 1) by rw [cntA])
            rw [HE.out]
            go_wp2
            go_roundw
            case rel => exact ⟨a + 1, by omega, by go_num, rfl, HB.out⟩
            case measure => simp [intOf]; omega
      · have e : a = N := by omega
        subst e
        go_wp2
        go_ret2
        exact RV_of rfl (HB0.out.trans (HB.out.mono HB0.out.size))
  · have HV := Lib.hid (show asV κ v bs = .tuple #[.int .i64 0, .int .i64 (fullC v bs)] by
      unfold asV asF
      rw [if_neg hc])
    rw [HV.out]
    obtain ⟨μ, hμ⟩ : ∃ μ, μ = fullC v bs := ⟨_, rfl⟩
    rw [← hμ] at hc HFC ⊢
    have q1 : (μ != 0) = true := by simpa using hc
    clear h hμ hc HV hκ
    obtain ⟨a0, c0, rfl⟩ := hs
    have HFX := Lib.hid (HFC.out (w.heap.size + 1) ((w.alloc (.cells #[.int .i64 v, .slice a0 bs.length c0] 30)).alloc (.cells #[.int .i64 v, .slice a0 bs.length c0] 30)) (((Below.refl _ _).alloc (Nat.le_refl _) _).alloc (by simp) _) (by simp [go_sem]) (by simp [go_sem]))
    clear HFC
    go_enter Try.func53, Try.ntmps53
    go_wp2_with fail
    refine HFX.out.mono ?_
    rintro e w1 ⟨rfl, hb1⟩
    have hB1 : Below w.heap.size w w1 := (((Below.refl _ _).alloc (Nat.le_refl _) _).alloc (by simp) _).trans (hb1.mono (by simp <;> omega))
    clear hb1
    go_wp2
    go_ret2
    exact RV_of rfl hB1
set_option maxRecDepth 100000 in
theorem CountPointTriples_any (v : Int) (s : Value) (bs : List Blk) (w : World) (h : SB w s bs) :
    Calls Try.prog 24 #[.agg #[.int .i64 v, s]] w (RV (asV 0 v bs) w) := by
  have hs := h.slice
  have HP := Lib.hid (countAssociative_any 0 (.inl rfl) v s bs _ (h.below ((Below.refl _ _).alloc (Nat.le_refl _) (.cells #[.int .i64 v, s] 30)) (Nat.le_refl _)))
  have HU := Lib.hid (show asV 0 v bs = .tuple #[.int .i64 (asF 0 v bs).1, .int .i64 (asF 0 v bs).2] from rfl)
  clear h
  obtain ⟨a0, c0, rfl⟩ := hs
  obtain ⟨η, hη⟩ : ∃ η, η = (asF 0 v bs).1 := ⟨_, rfl⟩
  obtain ⟨μ, hμ⟩ : ∃ μ, μ = (asF 0 v bs).2 := ⟨_, rfl⟩
  rw [← hη, ← hμ] at HU
  rw [HU.out] at HP ⊢
  clear hη hμ HU
  go_enter Try.func24, Try.ntmps24
  go_wp2_with fail
  refine HP.out.mono ?_
  rintro e w1 ⟨rfl, hb1⟩
  have hb2 := below_new hb1
  clear hb1
  go_wp2
  go_ret2
  exact RV_of rfl hb2
set_option maxRecDepth 100000 in
theorem CountAssociative_any (v : Int) (s : Value) (bs : List Blk) (w : World) (h : SB w s bs) :
    Calls Try.prog 22 #[.agg #[.int .i64 v, s]] w (RV (asV 1 v bs) w) := by
  have hs := h.slice
  have HP := Lib.hid (countAssociative_any 1 (.inr rfl) v s bs _ (h.below ((Below.refl _ _).alloc (Nat.le_refl _) (.cells #[.int .i64 v, s] 30)) (Nat.le_refl _)))
  have HU := Lib.hid (show asV 1 v bs = .tuple #[.int .i64 (asF 1 v bs).1, .int .i64 (asF 1 v bs).2] from rfl)
  clear h
  obtain ⟨a0, c0, rfl⟩ := hs
  obtain ⟨η, hη⟩ : ∃ η, η = (asF 1 v bs).1 := ⟨_, rfl⟩
  obtain ⟨μ, hμ⟩ : ∃ μ, μ = (asF 1 v bs).2 := ⟨_, rfl⟩
  rw [← hη, ← hμ] at HU
  rw [HU.out] at HP ⊢
  clear hη hμ HU
  go_enter Try.func22, Try.ntmps22
  go_wp2_with fail
  refine HP.out.mono ?_
  rintro e w1 ⟨rfl, hb1⟩
  have hb2 := below_new hb1
  clear hb1
  go_wp2
  go_ret2
  exact RV_of rfl hb2
end Go.Proofs.Ytahgialnhomefaa

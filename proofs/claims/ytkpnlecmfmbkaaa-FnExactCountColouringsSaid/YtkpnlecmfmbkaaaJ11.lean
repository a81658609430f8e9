
/- The program's search for a colouring. What is counted for a list of first uses. CountColourings of the model. -/
import Derived.Test.YtkpnlecmfmbkaaaJ10
import Derived.Deep.Cut
namespace Go.Proofs.Ytkpnlecmfmbkaaa
open Go.RowKit Go.Maps Go.Shelf
theorem gb_same {a b c : World} {row : Option Nat} (h : a.grownBy b row) (k : b.grownBy c row) : a.grownBy c row :=
  ⟨k.os.trans h.os, k.tape.trans h.tape, k.output.trans h.output, Nat.le_trans h.size k.size, fun i hi hne => (k.block i (Nat.lt_of_lt_of_le hi h.size) hne).trans (h.block i hi hne)⟩
theorem OwnJ.in_ {w : World} {base : Nat} {s : Value} {zs : List Int} (h : OwnJ w base s zs) : ∀ r, s.ownBlock = some r → base ≤ r ∧ r < w.heap.size := fun r e => by
  obtain ⟨hl, h | ⟨g, cap, cur, rfl, hb', hcur, hrest⟩⟩ := h
  · rw [h.1] at e; simp [Value.ownBlock] at e
  · obtain rfl : g = r := by simpa [Value.ownBlock] using e
    exact ⟨hb', (Array.getElem?_eq_some_iff.1 hcur).1⟩
theorem OwnJ.some_ {w : World} {base : Nat} {s : Value} {zs : List Int} (h : OwnJ w base s zs) (h0 : 0 < zs.length) : ∃ g cap, s = .slice (some ⟨g, 0, none⟩) zs.length cap := by
  rcases h.2 with ⟨_, e⟩ | ⟨g, cap, _, e, _⟩
  · omega
  · exact ⟨g, cap, e⟩
theorem gb_lo {w w' : World} {row : Option Nat} {B : Nat} (hg : w.grownBy w' row) (hB : B ≤ w.heap.size) (hr : ∀ r, row = some r → B ≤ r) : Below B w w' :=
  ⟨hg.os, hg.tape, hg.output, hg.size, fun k hk => hg.block k (by omega) (fun e => by have := hr k e.symm; omega)⟩
theorem gb_lo_refl (w : World) (row : Option Nat) : w.grownBy w row := ⟨rfl, rfl, rfl, Nat.le_refl _, fun _ _ _ => rfl⟩
/-- What was found lies behind the captured variable. -/
def FoundAt (w0 : World) (Bf n0 : Nat) (R : List Int) (W : World) : Prop := ∃ g cap, W.cell? ⟨Bf, 0, none⟩ = some (.slice (some ⟨g, 0, none⟩) R.length cap) ∧ OwnJ W n0 (.slice (some ⟨g, 0, none⟩) R.length cap) R ∧ Below Bf w0 W
set_option maxRecDepth 100000 in
theorem cloneI_any (s : Value) (zs : List Int) (w : World) (h : IA w s zs) (hl : zs.length ≤ 1100000) : Calls Try.prog 177 #[s] w (fun e w' => ∃ g cap, e = .returned (.slice (some ⟨g, 0, none⟩) zs.length cap) ∧ OwnJ w' w.heap.size (.slice (some ⟨g, 0, none⟩) zs.length cap) zs ∧ Below w.heap.size w w') := by
  have hform : ∃ b off c, s = .slice (some ⟨b, off, none⟩) zs.length c := by obtain ⟨b, off, cap, rfl, _⟩ := h; exact ⟨_, _, _, rfl⟩
  have H := Lib.hid h
  obtain ⟨b, off, c, rfl⟩ := hform
  clear h
  have ho0 := OwnJ.new0 w (base := w.heap.size) (Nat.le_refl _)
  have hB0 : Below w.heap.size w (w.alloc (.cells #[] 2)) := (Below.refl _ _).alloc (Nat.le_refl _) _
  have HO0 := Lib.hid ho0
  have HB0 := Lib.hid hB0
  clear ho0 hB0
  have hq : ∀ w, (binOp .eql 27 (.slice (some ⟨b, off, none⟩) zs.length c) (.slice none 0 0)).run Try.prog w = .ok (.bool false) w := fun _ => by kernel_rfl
  go_enter Try.func177, Try.ntmps177
  go_wp2_with (at_builtin; refine wpList_append_intsE rfl _ _ rfl w.heap.size w.heap.size rfl HO0.out _ zs rfl (H.out.below HB0.out (Nat.le_refl _)) (by omega) (by simp) ?_; intro g cap w4 hO4 hg4)
  go_ret
  exact ⟨g, cap, rfl, hO4, HB0.out.grown hg4 (by simp) (fun r e => by cases e; exact Nat.le_refl _)⟩
set_option maxRecDepth 100000 in
theorem visit_any (s : Value) (zs : List Int) (Bf : Nat) (u0 : Value) (w : World) (h : IA w s zs) (hl : zs.length ≤ 1100000) (hc : w.cell? ⟨Bf, 0, none⟩ = some u0) (hf : w.frozen? ⟨Bf, 0, none⟩ = false) (hlt : Bf < w.heap.size) :
    Calls Try.prog 199 #[s, .pointer (some ⟨Bf, 0, none⟩)] w (fun e w' => e = .returned (.bool false) ∧ ∃ g cap, w'.cell? ⟨Bf, 0, none⟩ = some (.slice (some ⟨g, 0, none⟩) zs.length cap) ∧ OwnJ w' w.heap.size (.slice (some ⟨g, 0, none⟩) zs.length cap) zs ∧ Below Bf w w') := by
  have HC := Lib.hid (cloneI_any s zs w h hl)
  have hform : ∃ b off c, s = .slice (some ⟨b, off, none⟩) zs.length c := by obtain ⟨b, off, cap, rfl, _⟩ := h; exact ⟨_, _, _, rfl⟩
  obtain ⟨b, off, c, rfl⟩ := hform
  clear h
  go_enter Try.func199, Try.ntmps199
  go_wp2_with fail
  refine HC.out.mono ?_
  rintro e w1 ⟨g, cap, rfl, hO, hb1⟩
  have c1 := (hb1.cell (p := ⟨Bf, 0, none⟩) hlt).trans hc
  have f1 := (hb1.frozen (p := ⟨Bf, 0, none⟩) hlt).trans hf
  have HO := Lib.hid hO
  clear hO hc hf HC
  go_wp2
  go_ret
  have hg := setG_gb w1 Bf 0 (.slice (some ⟨g, 0, none⟩) zs.length cap)
  have hb2 : Below Bf w w1 := hb1.mono (Nat.le_of_lt hlt)
  refine ⟨rfl, g, cap, World.cell?_setCell_same _ _ _ c1, ?_, hb2.setCell (p := ⟨Bf, 0, none⟩) (Nat.le_refl _) _⟩
  exact HO.out.kept hg (fun r hr => by cases hr; omega)
def EachQ (r : Option (List Int)) (v : Value) (L : List Int) (w0 : World) (Bf n0 : Nat) (w : World) (e : Ending) (w' : World) : Prop :=
  match r with
  | none => e = .returned (.bool true) ∧ w.grownBy w' v.ownBlock ∧ OwnJ w' n0 v L
  | some R => e = .returned (.bool false) ∧ FoundAt w0 Bf n0 R w'
set_option maxRecDepth 100000 in
set_option maxHeartbeats 8000000 in
theorem each_any (strict : Bool) (k least n G Bf : Nat) (uu : Nat → Value) (bs : List Blk) (w0 : World) (hT : TabB w0 G n (endB bs) uu) (hlb : bs.length ≤ 1100000) (hok : ∀ x ∈ bs, okB x) (hn3 : 3 ≤ n) (hn15 : n ≤ 15) (hk : k ≤ 6) (hle : least ≤ 6)
    (u0 : Value) (hc0 : w0.cell? ⟨Bf, 0, none⟩ = some u0) (hf0 : w0.frozen? ⟨Bf, 0, none⟩ = false) (hBf : Bf < w0.heap.size) :
    ∀ (d : Nat) (L : List Int) (used : Nat) (v : Value) (w : World) (_ : Below w0.heap.size w0 w) (_ : OwnJ w w0.heap.size v L) (_ : L.length + d = n) (_ : used ≤ 15),
    Calls Try.prog 138 #[srchV strict k least n G, v, .int .i64 (used : Int), .func (.func 199) #[] #[.pointer (some ⟨Bf, 0, none⟩)]] w (EachQ (findC strict bs k least d L used) v L w0 Bf w0.heap.size w) := by
  obtain ⟨T0, hT0⟩ := ruleV_form strict
  intro d
  induction d with
  | zero =>
    intro L used v w hB hO hL hu
    obtain ⟨g0, cap0, rfl⟩ := hO.some_ (by omega)
    have hLn : L.length = n := by omega
    have e1 : (n : Int) - (L.length : Int) = 0 := by omega
    have hb0 : Below w.heap.size w (w.alloc (.cells #[.iface T0 (.agg #[]), .int .i64 (k : Int), .int .i64 (least : Int), .slice (some ⟨G, 0, none⟩) n n] 122)) := (Below.refl _ _).alloc (Nat.le_refl _) _
    have HO := Lib.hid (hO.below hb0 (Nat.le_refl _))
    have hll : L.length ≤ 15 := by omega
    have hzw := hB.size
    by_cases hpr : used < least
    · have HV := Lib.hid (show findC strict bs k least 0 L used = none by simp [findC, hpr])
      rw [HV.out]
      have e3 : decide ((used : Int) < (least : Int)) = true := by simp; omega
      unfold srchV
      rw [hT0]
      clear hT0 hT hO hok hLn
      go_enter Try.func138, Try.ntmps138
      go_wp2
      go_ret
      exact ⟨rfl, only_of_below hb0 _, HO.out⟩
    · have HV := Lib.hid (show findC strict bs k least 0 L used = some L by simp [findC, hpr])
      rw [HV.out]
      have e3 : decide ((used : Int) < (least : Int)) = false := by simp; omega
      have HB1 := Lib.hid (hB.trans (hb0.mono hzw))
      have hc1 := (HB1.out.cell (p := ⟨Bf, 0, none⟩) hBf).trans hc0
      have hf1 := (HB1.out.frozen (p := ⟨Bf, 0, none⟩) hBf).trans hf0
      have HVI := Lib.hid (visit_any (.slice (some ⟨g0, 0, none⟩) L.length cap0) L Bf u0 _ (HO.out.ia (by omega)) (by omega) hc1 hf1 (by have := HB1.out.size; omega))
      unfold srchV
      rw [hT0]
      clear hT0 hT hO hok hLn hc1 hf1 hc0 hf0
      go_enter Try.func138, Try.ntmps138
      go_wp2_with fail
      refine HVI.out.mono ?_
      rintro e w2 ⟨rfl, g, cap, q1, q2, q3⟩
      have HQ := Lib.hid (show FoundAt w0 Bf w0.heap.size L w2 from ⟨g, cap, q1, ownsRow_base q2 HB1.out.size, (HB1.out.mono (by omega)).trans q3⟩)
      clear q1 q2 q3
      go_wp2
      go_ret
      exact ⟨rfl, HQ.out⟩
  | succ d ih =>
    intro L used v w hB hO hL hu
    obtain ⟨a5, c5, rfl⟩ := hO.formS
    have e1 : (n : Int) - (L.length : Int) = ((d + 1 : Nat) : Int) := by omega
    have e2 : (((d + 1 : Nat) : Int) == 0) = false := by simp; omega
    have e2' : ((d : Int) + 1 == 0) = false := by simp; omega
    have hb0 : Below w.heap.size w (w.alloc (.cells #[.iface T0 (.agg #[]), .int .i64 (k : Int), .int .i64 (least : Int), .slice (some ⟨G, 0, none⟩) n n] 122)) := (Below.refl _ _).alloc (Nat.le_refl _) _
    have hll : L.length ≤ 15 := by omega
    have hd15 : d ≤ 15 := by omega
    have hzw := hB.size
    by_cases hpr : used + (d + 1) < least
    · have HV := Lib.hid (show findC strict bs k least (d + 1) L used = none by simp [findC, hpr])
      rw [HV.out]
      have HO := Lib.hid (hO.below hb0 (Nat.le_refl _))
      have e3 : decide ((used : Int) + ((d + 1 : Nat) : Int) < (least : Int)) = true := by simp; omega
      have e3' : decide ((used : Int) + ((d : Int) + 1) < (least : Int)) = true := by simp; omega
      unfold srchV
      rw [hT0]
      clear hT0 hT hO hok ih
      go_enter Try.func138, Try.ntmps138
      go_wp2
      go_ret
      exact ⟨rfl, only_of_below hb0 _, HO.out⟩
    · have e3 : decide ((used : Int) + ((d + 1 : Nat) : Int) < (least : Int)) = false := by simp; omega
      have e3' : decide ((used : Int) + ((d : Int) + 1) < (least : Int)) = false := by simp; omega
      have HO0 := Lib.hid hO
      have HO2' := Lib.hid (hO.below hb0 (Nat.le_refl _))
      have HB0' := Lib.hid hb0
      have IH := Lib.hid ih
      have HFT := Lib.hid fun t zs W (hb : Below w0.heap.size w0 W) (ht : IB W t zs) (h0 : 0 < zs.length) (hn : zs.length ≤ n) => fits_any strict k least n G uu bs t zs W (hT.below hb) hlb hok ht h0 hn hn15
      obtain ⟨f, hf⟩ : ∃ f, f = fun c => if goodE strict bs (L ++ [((c : Nat) : Int)]) then findC strict bs k least d (L ++ [(c : Int)]) (max used (c + 1)) else none := ⟨_, rfl⟩
      have HF := Lib.hid hf
      obtain ⟨M, hM⟩ : ∃ M, M = min (used + 1) k := ⟨_, rfl⟩
      have HV := Lib.hid (show findC strict bs k least (d + 1) L used = tryN f 0 M by rw [hf, hM]; simp [findC, hpr])
      rw [HV.out]
      unfold srchV at *
      rw [hT0] at *
      obtain ⟨w2, hw2⟩ : ∃ w2, w2 = w.alloc (.cells #[.iface T0 (.agg #[]), .int .i64 (k : Int), .int .i64 (least : Int), .slice (some ⟨G, 0, none⟩) n n] 122) := ⟨_, rfl⟩
      have hz2 : w2.heap.size = w.heap.size + 1 := by rw [hw2]; simp
      have s0 : w2.cell? ⟨w.heap.size, 0, none⟩ = some (.iface T0 (.agg #[])) := by rw [hw2]; simp
      have s1 : w2.cell? ⟨w.heap.size, 1, none⟩ = some (.int .i64 (k : Int)) := by rw [hw2]; simp
      have s2 : w2.cell? ⟨w.heap.size, 2, none⟩ = some (.int .i64 (least : Int)) := by rw [hw2]; simp
      have s3 : w2.cell? ⟨w.heap.size, 3, none⟩ = some (.slice (some ⟨G, 0, none⟩) n n) := by rw [hw2]; simp
      have HB0 := Lib.hid (show Below w.heap.size w w2 by rw [hw2]; exact HB0'.out)
      have HO2 := Lib.hid (show OwnJ w2 w0.heap.size (.slice a5 L.length c5) L by rw [hw2]; exact HO2'.out)
      have HB2 := Lib.hid (show Below w0.heap.size w0 w2 from hB.trans (HB0.out.mono hzw))
      clear hO hT hok ih hf HV hb0 HO2' HB0' hB
      rcases Nat.lt_or_ge k (used + 1) with hku | hku
      · have hMk : M = k := by omega
        have HMK := Lib.hid hMk
        have hMle : M ≤ k := by omega
        have hMge : k ≤ M := by omega
        clear hM hMk
        go_enter Try.func138, Try.ntmps138
        go_wp2_with fail
        all_goals try (exfalso; omega)
        rw [← hw2]
        go_loopw [34] (fun i wr => ∃ j : Nat, j ≤ M ∧ i = .int .i64 j ∧ w2.grownBy wr (Value.slice a5 L.length c5).ownBlock ∧ OwnJ wr w0.heap.size (.slice a5 L.length c5) L ∧ Hid (tryN f 0 M = tryN f j (M - j))) (fun i _ => M - (intOf i).toNat)
        case atStart => exact ⟨0, Nat.zero_le _, rfl, gb_lo_refl _ _, HO2.out, Lib.hid rfl⟩
        case round =>
          obtain ⟨j, hj, rfl, hgr, hO, HR⟩ := hrel
          have HGR := Lib.hid hgr
          have HOW := Lib.hid hO
          have hz := hgr.size
          have HBR := Lib.hid (HB2.out.trans (gb_lo hgr (by omega) (fun r e => (HO2.out.in_ r e).1)))
          clear hgr hO
          by_cases hjl : j < M
          · have t1 : decide ((j : Int) < (k : Int)) = true := by simp; omega
            have HFJ := Lib.hid (show f j = if goodE strict bs (L ++ [(j : Int)]) then findC strict bs k least d (L ++ [(j : Int)]) (max used (j + 1)) else none by rw [HF.out])
            go_upto_region 10 with (at_builtin; refine wpList_append_one rfl _ _ rfl w0.heap.size (.slice a5 L.length c5) L rfl (by exact HOW.out.below ((Below.refl _ _).alloc (Nat.le_refl _) _) (Nat.le_refl _)) _ _ (j : Int) rfl (by simp [go_sem]) (by omega) (by simp; have := HBR.out.size; omega) ?_; intro g cap w4 hO4 hg4 hbk)
            have HBK := Lib.hid hbk
            have HG4 := Lib.hid hg4
            have hz4 := hg4.size
            simp at hz4
            have hgw4 := gb_same HGR.out (gb_trans (World.grownBy_alloc _ _ none) hg4)
            have HB4 := Lib.hid (HB2.out.trans (gb_lo hgw4 (by omega) (fun r e => (HO2.out.in_ r e).1)))
            have hne : some w.heap.size ≠ (Value.slice a5 L.length c5).ownBlock := fun e => by have := (HO0.out.in_ _ e.symm).2; omega
            have q0 := hgw4.cell s0 hne
            have q1 := hgw4.cell s1 hne
            have q2 := hgw4.cell s2 hne
            have q3 := hgw4.cell s3 hne
            have HO4 : Hid (OwnJ w4 w0.heap.size (.slice (some ⟨g, 0, none⟩) (L ++ [(j : Int)]).length cap) (L ++ [(j : Int)])) := Lib.hid (by rw [List.length_append, List.length_singleton]; exact hO4)
            have HFI := Lib.hid (HFT.out _ (L ++ [(j : Int)]) w4 HB4.out (HO4.out.ib (by rw [List.length_append, List.length_singleton]; omega)) (by simp) (by rw [List.length_append, List.length_singleton]; omega))
            have hln : (L ++ [(j : Int)]).length = L.length + 1 := by simp
            have hL15 : L.length + 1 ≤ 15 := by omega
            rw [hln] at HFI HO4
            clear hO4 hg4 hbk hgw4 hln hne
            cases hge : goodE strict bs (L ++ [(j : Int)]) with
            | false =>
              rw [hge] at HFI HFJ
              have HN := Lib.hid (show tryN f 0 M = tryN f (j + 1) (M - (j + 1)) by rw [HR.out, tryN_miss HFJ.out (by omega)]; congr 1)
              clear hge HFJ
              go_wp2_with fail
              refine HFI.out.mono ?_
              rintro e w5 ⟨rfl, hb5⟩
              have hg45 : w4.grownBy w5 (some g) := gb_trans (only_of_below hb5 none) (gb_lo_refl _ _)
              have hO5' := HBK.out.own hg45 (HO4.out.below hb5 (Nat.le_refl _))
              have hgw5 := gb_same HGR.out (gb_trans (World.grownBy_alloc _ _ none) (HBK.out.grown HG4.out hg45))
              clear hb5 hg45
              go_wp2
              go_roundw
              case rel => exact ⟨j + 1, by omega, by go_num, hgw5, hO5', HN⟩
              case measure => simp [intOf]; omega
            | true =>
              rw [hge] at HFI HFJ
              obtain ⟨r, hr⟩ : ∃ r, r = findC strict bs k least d (L ++ [(j : Int)]) (max used (j + 1)) := ⟨_, rfl⟩
              rw [if_pos rfl, ← hr] at HFJ
              have HRR := Lib.hid hr
              clear hge hr
              go_wp2_with fail
              refine HFI.out.mono ?_
              rintro e w5 ⟨rfl, hb5⟩
              have HG45 := Lib.hid (only_of_below hb5 none)
              have HB5 := Lib.hid (HB4.out.trans (hb5.mono (by have := HB4.out.size; omega)))
              have q0 := (hb5.cell (p := ⟨w.heap.size, 0, none⟩) (by show w.heap.size < _; omega)).trans q0
              have q1 := (hb5.cell (p := ⟨w.heap.size, 1, none⟩) (by show w.heap.size < _; omega)).trans q1
              have q2 := (hb5.cell (p := ⟨w.heap.size, 2, none⟩) (by show w.heap.size < _; omega)).trans q2
              have q3 := (hb5.cell (p := ⟨w.heap.size, 3, none⟩) (by show w.heap.size < _; omega)).trans q3
              have HI := Lib.hid (IH.out (L ++ [(j : Int)]) (max used (j + 1)) (.slice (some ⟨g, 0, none⟩) (L.length + 1) cap) w5 HB5.out (HO4.out.below hb5 (Nat.le_refl _)) (by rw [List.length_append, List.length_singleton]; omega) (by omega))
              rw [← HRR.out] at HI
              clear hb5
              by_cases hmx : used ≤ j
              · exfalso; omega
              · rw [show max used (j + 1) = used by omega] at HI
                have hmI : max (used : Int) ((j : Int) + 1) = (used : Int) := by omega
                cases hrr : r with
                | none =>
                  rw [hrr] at HI HFJ
                  have HN := Lib.hid (show tryN f 0 M = tryN f (j + 1) (M - (j + 1)) by rw [HR.out, tryN_miss HFJ.out (by omega)]; congr 1)
                  clear hrr HFJ HRR
                  go_wp2_with fail
                  all_goals try (exfalso; omega)
                  try rw [hmI]
                  refine HI.out.mono ?_
                  rintro e w6 ⟨rfl, hg6, hO6⟩
                  have hg46 := gb_trans HG45.out hg6
                  have hO6' := HBK.out.own hg46 hO6
                  have hgw6 := gb_same HGR.out (gb_trans (World.grownBy_alloc _ _ none) (HBK.out.grown HG4.out hg46))
                  clear hg6 hO6 hg46
                  go_wp2
                  go_roundw
                  case rel => exact ⟨j + 1, by omega, by go_num, hgw6, hO6', HN⟩
                  case measure => simp [intOf]; omega
                | some R =>
                  rw [hrr] at HI HFJ
                  have HN := Lib.hid (show tryN f 0 M = some R by rw [HR.out, tryN_hit HFJ.out (by omega)])
                  clear hrr HFJ HRR
                  go_wp2_with fail
                  all_goals try (exfalso; omega)
                  try rw [hmI]
                  refine HI.out.mono ?_
                  rintro e w6 ⟨rfl, hF6⟩
                  have HF6 := Lib.hid hF6
                  clear hF6
                  go_wp2
                  go_ret
                  rw [HN.out]
                  exact ⟨rfl, HF6.out⟩
          · have HN := Lib.hid (show tryN f 0 M = none by rw [HR.out, show M - j = 0 by omega]; rfl)
            have t1 : decide ((j : Int) < (k : Int)) = false := by simp; omega
            have t2 : (k : Int) ≤ (j : Int) := by omega
            go_wp2
            go_ret
            rw [HN.out]
            exact ⟨rfl, gb_same (only_of_below HB0.out _) HGR.out, HOW.out⟩
      · have hMk : M = used + 1 := by omega
        have HMK := Lib.hid hMk
        have hMle : M ≤ used + 1 := by omega
        have hMge : used + 1 ≤ M := by omega
        clear hM hMk
        go_enter Try.func138, Try.ntmps138
        go_wp2_with fail
        all_goals try (exfalso; omega)
        rw [← hw2]
        go_loopw [34] (fun i wr => ∃ j : Nat, j ≤ M ∧ i = .int .i64 j ∧ w2.grownBy wr (Value.slice a5 L.length c5).ownBlock ∧ OwnJ wr w0.heap.size (.slice a5 L.length c5) L ∧ Hid (tryN f 0 M = tryN f j (M - j))) (fun i _ => M - (intOf i).toNat)
        case atStart => exact ⟨0, Nat.zero_le _, rfl, gb_lo_refl _ _, HO2.out, Lib.hid rfl⟩
        case round =>
          obtain ⟨j, hj, rfl, hgr, hO, HR⟩ := hrel
          have HGR := Lib.hid hgr
          have HOW := Lib.hid hO
          have hz := hgr.size
          have HBR := Lib.hid (HB2.out.trans (gb_lo hgr (by omega) (fun r e => (HO2.out.in_ r e).1)))
          clear hgr hO
          by_cases hjl : j < M
          · have t1 : decide ((j : Int) < (used : Int) + 1) = true := by simp; omega
            have HFJ := Lib.hid (show f j = if goodE strict bs (L ++ [(j : Int)]) then findC strict bs k least d (L ++ [(j : Int)]) (max used (j + 1)) else none by rw [HF.out])
            go_upto_region 10 with (at_builtin; refine wpList_append_one rfl _ _ rfl w0.heap.size (.slice a5 L.length c5) L rfl (by exact HOW.out.below ((Below.refl _ _).alloc (Nat.le_refl _) _) (Nat.le_refl _)) _ _ (j : Int) rfl (by simp [go_sem]) (by omega) (by simp; have := HBR.out.size; omega) ?_; intro g cap w4 hO4 hg4 hbk)
            have HBK := Lib.hid hbk
            have HG4 := Lib.hid hg4
            have hz4 := hg4.size
            simp at hz4
            have hgw4 := gb_same HGR.out (gb_trans (World.grownBy_alloc _ _ none) hg4)
            have HB4 := Lib.hid (HB2.out.trans (gb_lo hgw4 (by omega) (fun r e => (HO2.out.in_ r e).1)))
            have hne : some w.heap.size ≠ (Value.slice a5 L.length c5).ownBlock := fun e => by have := (HO0.out.in_ _ e.symm).2; omega
            have q0 := hgw4.cell s0 hne
            have q1 := hgw4.cell s1 hne
            have q2 := hgw4.cell s2 hne
            have q3 := hgw4.cell s3 hne
            have HO4 : Hid (OwnJ w4 w0.heap.size (.slice (some ⟨g, 0, none⟩) (L ++ [(j : Int)]).length cap) (L ++ [(j : Int)])) := Lib.hid (by rw [List.length_append, List.length_singleton]; exact hO4)
            have HFI := Lib.hid (HFT.out _ (L ++ [(j : Int)]) w4 HB4.out (HO4.out.ib (by rw [List.length_append, List.length_singleton]; omega)) (by simp) (by rw [List.length_append, List.length_singleton]; omega))
            have hln : (L ++ [(j : Int)]).length = L.length + 1 := by simp
            have hL15 : L.length + 1 ≤ 15 := by omega
            rw [hln] at HFI HO4
            clear hO4 hg4 hbk hgw4 hln hne
            cases hge : goodE strict bs (L ++ [(j : Int)]) with
            | false =>
              rw [hge] at HFI HFJ
              have HN := Lib.hid (show tryN f 0 M = tryN f (j + 1) (M - (j + 1)) by rw [HR.out, tryN_miss HFJ.out (by omega)]; congr 1)
              clear hge HFJ
              go_wp2_with fail
              refine HFI.out.mono ?_
              rintro e w5 ⟨rfl, hb5⟩
              have hg45 : w4.grownBy w5 (some g) := gb_trans (only_of_below hb5 none) (gb_lo_refl _ _)
              have hO5' := HBK.out.own hg45 (HO4.out.below hb5 (Nat.le_refl _))
              have hgw5 := gb_same HGR.out (gb_trans (World.grownBy_alloc _ _ none) (HBK.out.grown HG4.out hg45))
              clear hb5 hg45
              go_wp2
              go_roundw
              case rel => exact ⟨j + 1, by omega, by go_num, hgw5, hO5', HN⟩
              case measure => simp [intOf]; omega
            | true =>
              rw [hge] at HFI HFJ
              obtain ⟨r, hr⟩ : ∃ r, r = findC strict bs k least d (L ++ [(j : Int)]) (max used (j + 1)) := ⟨_, rfl⟩
              rw [if_pos rfl, ← hr] at HFJ
              have HRR := Lib.hid hr
              clear hge hr
              go_wp2_with fail
              refine HFI.out.mono ?_
              rintro e w5 ⟨rfl, hb5⟩
              have HG45 := Lib.hid (only_of_below hb5 none)
              have HB5 := Lib.hid (HB4.out.trans (hb5.mono (by have := HB4.out.size; omega)))
              have q0 := (hb5.cell (p := ⟨w.heap.size, 0, none⟩) (by show w.heap.size < _; omega)).trans q0
              have q1 := (hb5.cell (p := ⟨w.heap.size, 1, none⟩) (by show w.heap.size < _; omega)).trans q1
              have q2 := (hb5.cell (p := ⟨w.heap.size, 2, none⟩) (by show w.heap.size < _; omega)).trans q2
              have q3 := (hb5.cell (p := ⟨w.heap.size, 3, none⟩) (by show w.heap.size < _; omega)).trans q3
              have HI := Lib.hid (IH.out (L ++ [(j : Int)]) (max used (j + 1)) (.slice (some ⟨g, 0, none⟩) (L.length + 1) cap) w5 HB5.out (HO4.out.below hb5 (Nat.le_refl _)) (by rw [List.length_append, List.length_singleton]; omega) (by omega))
              rw [← HRR.out] at HI
              clear hb5
              by_cases hmx : used ≤ j
              · rw [show max used (j + 1) = j + 1 by omega] at HI
                have hmI : max (used : Int) ((j : Int) + 1) = ((j + 1 : Nat) : Int) := by omega
                cases hrr : r with
                | none =>
                  rw [hrr] at HI HFJ
                  have HN := Lib.hid (show tryN f 0 M = tryN f (j + 1) (M - (j + 1)) by rw [HR.out, tryN_miss HFJ.out (by omega)]; congr 1)
                  clear hrr HFJ HRR
                  go_wp2_with fail
                  all_goals try (exfalso; omega)
                  try rw [hmI]
                  refine HI.out.mono ?_
                  rintro e w6 ⟨rfl, hg6, hO6⟩
                  have hg46 := gb_trans HG45.out hg6
                  have hO6' := HBK.out.own hg46 hO6
                  have hgw6 := gb_same HGR.out (gb_trans (World.grownBy_alloc _ _ none) (HBK.out.grown HG4.out hg46))
                  clear hg6 hO6 hg46
                  go_wp2
                  go_roundw
                  case rel => exact ⟨j + 1, by omega, by go_num, hgw6, hO6', HN⟩
                  case measure => simp [intOf]; omega
                | some R =>
                  rw [hrr] at HI HFJ
                  have HN := Lib.hid (show tryN f 0 M = some R by rw [HR.out, tryN_hit HFJ.out (by omega)])
                  clear hrr HFJ HRR
                  go_wp2_with fail
                  all_goals try (exfalso; omega)
                  try rw [hmI]
                  refine HI.out.mono ?_
                  rintro e w6 ⟨rfl, hF6⟩
                  have HF6 := Lib.hid hF6
                  clear hF6
                  go_wp2
                  go_ret
                  rw [HN.out]
                  exact ⟨rfl, HF6.out⟩
              · rw [show max used (j + 1) = used by omega] at HI
                have hmI : max (used : Int) ((j : Int) + 1) = (used : Int) := by omega
                cases hrr : r with
                | none =>
                  rw [hrr] at HI HFJ
                  have HN := Lib.hid (show tryN f 0 M = tryN f (j + 1) (M - (j + 1)) by rw [HR.out, tryN_miss HFJ.out (by omega)]; congr 1)
                  clear hrr HFJ HRR
                  go_wp2_with fail
                  all_goals try (exfalso; omega)
                  try rw [hmI]
                  refine HI.out.mono ?_
                  rintro e w6 ⟨rfl, hg6, hO6⟩
                  have hg46 := gb_trans HG45.out hg6
                  have hO6' := HBK.out.own hg46 hO6
                  have hgw6 := gb_same HGR.out (gb_trans (World.grownBy_alloc _ _ none) (HBK.out.grown HG4.out hg46))
                  clear hg6 hO6 hg46
                  go_wp2
                  go_roundw
                  case rel => exact ⟨j + 1, by omega, by go_num, hgw6, hO6', HN⟩
                  case measure => simp [intOf]; omega
                | some R =>
                  rw [hrr] at HI HFJ
                  have HN := Lib.hid (show tryN f 0 M = some R by rw [HR.out, tryN_hit HFJ.out (by omega)])
                  clear hrr HFJ HRR
                  go_wp2_with fail
                  all_goals try (exfalso; omega)
                  try rw [hmI]
                  refine HI.out.mono ?_
                  rintro e w6 ⟨rfl, hF6⟩
                  have HF6 := Lib.hid hF6
                  clear hF6
                  go_wp2
                  go_ret
                  rw [HN.out]
                  exact ⟨rfl, HF6.out⟩
          · have HN := Lib.hid (show tryN f 0 M = none by rw [HR.out, show M - j = 0 by omega]; rfl)
            have t1 : decide ((j : Int) < (used : Int) + 1) = false := by simp; omega
            have t2 : (used : Int) + 1 ≤ (j : Int) := by omega
            go_wp2
            go_ret
            rw [HN.out]
            exact ⟨rfl, gb_same (only_of_below HB0.out _) HGR.out, HOW.out⟩
end Go.Proofs.Ytkpnlecmfmbkaaa

namespace Go.Proofs.Ytkpnlecmfmbkaaa
open Go.RowKit Go.Maps Go.Shelf
theorem ffN_le {k : Nat} (hk : k ≤ 3) : ∀ u, u ≤ 3 → ffN k u ≤ 27
  | 0, _ => by simp [ffN]
  | 1, _ => by simp [ffN]; omega
  | 2, _ => by
    have : k = 0 ∨ k = 1 ∨ k = 2 ∨ k = 3 := by omega
    rcases this with rfl | rfl | rfl | rfl <;> decide
  | 3, _ => by
    have : k = 0 ∨ k = 1 ∨ k = 2 ∨ k = 3 := by omega
    rcases this with rfl | rfl | rfl | rfl <;> decide
  | _ + 4, h => by omega
set_option maxRecDepth 100000 in
set_option maxHeartbeats 1000000 in
theorem visitC_any (s : Value) (zs : List Int) (k used x Bk Bf : Nat) (w : World) (h : IA w s zs) (hl : zs.length ≤ 1100000) (hm : MaxOf zs ((used : Int) - 1)) (hk : k ≤ 3) (hu : used ≤ k) (hx : x ≤ 1000000)
    (hck : w.cell? ⟨Bk, 0, none⟩ = some (.int .i64 (k : Int))) (hc : w.cell? ⟨Bf, 0, none⟩ = some (.int .i64 (x : Int))) (hf : w.frozen? ⟨Bf, 0, none⟩ = false) :
    Calls Try.prog 139 #[s, .pointer (some ⟨Bk, 0, none⟩), .pointer (some ⟨Bf, 0, none⟩)] w (fun e w' => e = .returned (.bool true) ∧ w' = w.setCell ⟨Bf, 0, none⟩ (.int .i64 ((x + ffN k used : Nat) : Int))) := by
  have HX := Lib.hid (MaxI_any s zs _ w h hl hm)
  have hform : ∃ b off c, s = .slice (some ⟨b, off, none⟩) zs.length c := by obtain ⟨b, off, cap, rfl, _⟩ := h; exact ⟨_, _, _, rfl⟩
  obtain ⟨b, off, c, rfl⟩ := hform
  clear h
  go_enter Try.func139, Try.ntmps139
  go_wp2_with fail
  refine HX.out.mono ?_
  rintro e w1 ⟨rfl, rfl⟩
  go_wp2
  go_loop [5, 10] (fun q i => ∃ j : Nat, j ≤ used ∧ i = .int .i64 j ∧ q = .int .i64 (ffN k j : Nat)) (fun _ i => used - (intOf i).toNat)
  case atStart => exact ⟨0, Nat.zero_le _, rfl, rfl⟩
  case round =>
    obtain ⟨j, hj, rfl, rfl⟩ := hrel
    by_cases hjl : j < used
    · have t1 : decide ((j : Int) < (used : Int)) = true := by simp; omega
      have hb := ffN_le hk j (by omega)
      have e : ((ffN k (j + 1) : Nat) : Int) = (ffN k j : Nat) * ((k : Int) - (j : Int)) := by
        show ((ffN k j * (k - j) : Nat) : Int) = _
        rw [Int.natCast_mul, show ((k - j : Nat) : Int) = (k : Int) - (j : Int) by omega]
      have hb2 := ffN_le hk (j + 1) (by omega)
      obtain ⟨F, hF⟩ : ∃ F, F = ffN k j := ⟨_, rfl⟩
      obtain ⟨F2, hF2⟩ : ∃ F, F = ffN k (j + 1) := ⟨_, rfl⟩
      rw [← hF] at hb e
      rw [← hF2] at hb2 e
      rw [← hF]
      have HF2 := Lib.hid hF2
      have HE := Lib.hid e
      clear hF hF2 e
      go_wp2
      go_round
      case rel => exact ⟨j + 1, by omega, by go_num, by rw [← HF2.out, ← HE.out]; exact congrArg (Value.int .i64) (by unfold wrap64; omega)⟩
      case measure => simp [intOf]; omega
    · have t1 : decide ((j : Int) < (used : Int)) = false := by simp; omega
      have hje : j = used := by omega
      subst hje
      have hb := ffN_le hk j (by omega)
      obtain ⟨F, hF⟩ : ∃ F, F = ffN k j := ⟨_, rfl⟩
      rw [← hF] at hb
      have HF := Lib.hid hF
      clear hF
      go_wp2
      go_ret
      exact ⟨rfl, by rw [← HF.out]; congr 1; exact congrArg (Value.int .i64) (by unfold wrap64; omega)⟩
end Go.Proofs.Ytkpnlecmfmbkaaa

namespace Go.Proofs.Ytkpnlecmfmbkaaa
open Go.RowKit Go.Maps Go.Shelf
theorem allC_small {bs : List Blk} {k d : Nat} {L : List Int} (hk : k ≤ 3) (hd : d ≤ 9) : allC bs k d L ≤ 19683 :=
  Nat.le_trans (allC_le bs k d L) (Nat.le_trans (Nat.pow_le_pow_left hk d) (Nat.le_trans (Nat.pow_le_pow_right (by omega) hd) (by decide)))
theorem sumF_step (f : Nat → Nat) {j k : Nat} (h : j < k) : sumF f j (k - j) = f j + sumF f (j + 1) (k - (j + 1)) := by
  obtain ⟨m, hm⟩ : ∃ m, k - j = m + 1 := ⟨k - j - 1, by omega⟩
  rw [hm, show k - (j + 1) = m by omega]
  rfl
set_option maxRecDepth 100000 in
set_option maxHeartbeats 16000000 in
theorem l07All_any (v k : Nat) (s : Value) (bs : List Blk) (hok : ∀ x ∈ bs, okB x) (hv : v ≤ 9) (hk : k ≤ 3) : ∀ (d : Nat) (L : List Int) (w : World) (base g0 cap0 : Nat) (_ : SB w s bs) (_ : OwnJ w base (.slice (some ⟨g0, 0, none⟩) L.length cap0) L) (_ : base ≤ w.heap.size) (_ : L.length + d = v) (_ : goodN false (L.length : Int) L bs = true),
    Calls Try.prog 136 #[.agg #[.int .i64 (v : Int), s], .int .i64 (k : Int), .slice (some ⟨g0, 0, none⟩) L.length cap0] w (RV (.int .i64 (allC bs k d L : Nat)) w) := by
  intro d
  induction d with
  | zero =>
    intro L w base g0 cap0 h ho hbase hL hg
    obtain ⟨a0, c0, rfl⟩ := h.slice
    have hb0 : Below w.heap.size w (w.alloc (.cells #[.int .i64 (v : Int), .slice a0 bs.length c0] 32)) := (Below.refl _ _).alloc (Nat.le_refl _) _
    have e1 : ((L.length : Int) == (v : Int)) = true := by simp; omega
    have e2 : decide ((L.length : Int) = (v : Int)) = true := by simp; omega
    clear hok h ho hg
    go_enter Try.func136, Try.ntmps136
    go_wp2
    go_ret
    exact RV_of rfl hb0
  | succ d ih =>
    intro L w base g0 cap0 h ho hbase hL hg
    obtain ⟨a0, c0, rfl⟩ := h.slice
    have e1 : ((L.length : Int) == (v : Int)) = false := by simp; omega
    have e2 : decide ((L.length : Int) = (v : Int)) = false := by simp; omega
    have HOW := Lib.hid ho
    have HSB := Lib.hid h
    have HG := Lib.hid hg
    have HOK := Lib.hid hok
    have IH := Lib.hid ih
    obtain ⟨f, hf⟩ : ∃ f, f = fun c => if goodE false bs (L ++ [((c : Nat) : Int)]) then allC bs k d (L ++ [(c : Int)]) else 0 := ⟨_, rfl⟩
    have HF := Lib.hid hf
    have HV := Lib.hid (show allC bs k (d + 1) L = sumF f 0 k by rw [hf]; rfl)
    have HT := Lib.hid (show sumF f 0 k ≤ 19683 by rw [← HV.out]; exact allC_small hk (by omega))
    have HS := Lib.hid fun (M : List Int) => (allC_small (bs := bs) (k := k) (d := d) (L := M) hk (by omega))
    rw [HV.out]
    have HAH := Lib.hid fun (c : Nat) t W (hb : SB W (.slice a0 bs.length c0) bs) (ht : IB W t (L ++ [(c : Int)])) => (good_step hok hg (c := (c : Int)) ▸ l07Ahead_any false (v : Int) _ bs t (L ++ [(c : Int)]) W hb ht (fun x hx hc => okB_in3 (hok x hx) hc))
    have hl15 : L.length ≤ 15 := by omega
    clear ho h hg hok ih hf HV
    go_enter Try.func136, Try.ntmps136
    go_wp2
    obtain ⟨w2, hw2⟩ : ∃ w2, w2 = w.alloc (.cells #[.int .i64 (v : Int), .slice a0 bs.length c0] 32) := ⟨_, rfl⟩
    have hB0 : Below w.heap.size w w2 := by rw [hw2]; exact (Below.refl _ _).alloc (Nat.le_refl _) _
    have hz2 : w2.heap.size = w.heap.size + 1 := by rw [hw2]; simp
    have hc0 : w2.cell? ⟨w.heap.size, 0, none⟩ = some (.int .i64 (v : Int)) := by rw [hw2]; simp
    have hc2 : w2.cell? ⟨w.heap.size, 1, none⟩ = some (.slice a0 bs.length c0) := by rw [hw2]; simp
    rw [← hw2]
    clear hw2
    go_loopw [7, 8] (fun q i wr => ∃ j S : Nat, j ≤ k ∧ i = .int .i64 j ∧ q = .int .i64 S ∧ S ≤ 19683 ∧ Below (w.heap.size + 1) w2 wr ∧ Hid (sumF f 0 k = S + sumF f j (k - j))) (fun _ i _ => k - (intOf i).toNat)
    case atStart => exact ⟨0, 0, Nat.zero_le _, rfl, rfl, by omega, Below.refl _ _, Lib.hid (by rw [Nat.zero_add, Nat.sub_zero])⟩
    case round =>
      obtain ⟨j, S, hj, rfl, rfl, hS, hB, HR⟩ := hrel
      have hz := hB.size
      have p0 : wr.cell? ⟨w.heap.size, 0, none⟩ = some (.int .i64 (v : Int)) := by rw [hB.cell (by simp)]; exact hc0
      have p1 : wr.cell? ⟨w.heap.size, 1, none⟩ = some (.slice a0 bs.length c0) := by rw [hB.cell (by simp)]; exact hc2
      have hBw : Below w.heap.size w wr := hB0.trans (hB.mono (by omega))
      by_cases hjl : j < k
      · have t1 : decide ((j : Int) < (k : Int)) = true := by simp; omega
        have HO1 := Lib.hid (HOW.out.below hBw (Nat.le_refl _))
        have HIA := Lib.hid (HO1.out.ia (by omega))
        have HFJ := Lib.hid (show f j = if goodE false bs (L ++ [(j : Int)]) then allC bs k d (L ++ [(j : Int)]) else 0 by rw [HF.out])
        have HST := Lib.hid (sumF_step f hjl)
        go_wp2_with fail
        refine (l01Own_any _ L wr HIA.out (by omega)).mono ?_
        rintro e w3 ⟨g1, cap1, rfl, hO3, hb3⟩
        have HB3 := Lib.hid (hB.trans (hb3.mono (by omega)))
        have HW3 := Lib.hid (hBw.trans (hb3.mono hBw.size))
        have HO3 := Lib.hid hO3
        have hz3 := hb3.size
        clear hO3 hb3
        go_upto_region 8 with (at_builtin; refine wpList_append_int rfl _ _ rfl wr.heap.size (.slice (some ⟨g1, 0, none⟩) L.length cap1) L rfl (by exact HO3.out.below ((Below.refl _ _).alloc (Nat.le_refl _) _) (Nat.le_refl _)) _ _ (j : Int) rfl (by simp [go_sem]) (by omega) (by simp; omega) ?_; intro g cap w4 hO4 hg4)
        have HB4 := Lib.hid ((HB3.out.alloc (by omega) _).grown hg4 (by simp; omega) (fun r e => by have := HO3.out.row r e; omega))
        have HW4 := Lib.hid (hB0.trans (HB4.out.mono (by omega)))
        have HO4 : Hid (OwnJ w4 wr.heap.size (.slice (some ⟨g, 0, none⟩) (L ++ [(j : Int)]).length cap) (L ++ [(j : Int)])) := Lib.hid (by rw [List.length_append, List.length_singleton]; exact hO4)
        have hz4 : wr.heap.size ≤ w4.heap.size := by have := hg4.size; simp at this; omega
        have q0 : w4.cell? ⟨w.heap.size, 0, none⟩ = some (.int .i64 (v : Int)) := by rw [HB4.out.cell (by simp)]; exact hc0
        have q1 : w4.cell? ⟨w.heap.size, 1, none⟩ = some (.slice a0 bs.length c0) := by rw [HB4.out.cell (by simp)]; exact hc2
        have HSB4 := Lib.hid (HSB.out.below HW4.out (Nat.le_refl _))
        have HA := Lib.hid (HAH.out j _ w4 HSB4.out (HO4.out.ib (by rw [List.length_append, List.length_singleton]; omega)))
        have hln : (L ++ [(j : Int)]).length = L.length + 1 := by simp
        rw [hln] at HA HO4
        clear hO4 hg4 HB3 HW3 HO3 hz3 p0 p1 hln
        cases hge : goodE false bs (L ++ [(j : Int)]) with
        | false =>
          rw [hge] at HA HFJ
          have HN := Lib.hid (show sumF f 0 k = S + sumF f (j + 1) (k - (j + 1)) by rw [HR.out, HST.out, HFJ.out]; simp)
          clear hge HFJ
          go_wp2_with fail
          refine HA.out.mono ?_
          rintro e w5 ⟨rfl, hb5⟩
          have hB5 := HB4.out.trans (hb5.mono (by omega))
          clear hb5
          go_wp2
          go_roundw
          case rel => exact ⟨j + 1, S, by omega, by go_num, rfl, hS, hB5, HN⟩
          case measure => simp [intOf]; omega
        | true =>
          rw [hge] at HA HFJ
          have HGN := Lib.hid (show goodN false ((L ++ [(j : Int)]).length : Int) (L ++ [(j : Int)]) bs = true by rw [good_step HOK.out HG.out]; exact hge)
          obtain ⟨r, hr⟩ : ∃ r, r = allC bs k d (L ++ [(j : Int)]) := ⟨_, rfl⟩
          have hr2 : r ≤ 19683 := by rw [hr]; exact HS.out _
          rw [if_pos rfl, ← hr] at HFJ
          have HRR := Lib.hid hr
          have HN := Lib.hid (show sumF f 0 k = (S + r) + sumF f (j + 1) (k - (j + 1)) by rw [HR.out, HST.out, HFJ.out]; omega)
          have hSr : S + r ≤ 19683 := by have := HT.out; have := HN.out; omega
          clear hge hr
          go_wp2_with fail
          refine HA.out.mono ?_
          rintro e w5 ⟨rfl, hb5⟩
          have HB5 := Lib.hid (HB4.out.trans (hb5.mono (by omega)))
          have HW5 := Lib.hid (hB0.trans (HB5.out.mono (by omega)))
          have q0 := (hb5.cell (p := ⟨w.heap.size, 0, none⟩) (by show w.heap.size < _; omega)).trans q0
          have q1 := (hb5.cell (p := ⟨w.heap.size, 1, none⟩) (by show w.heap.size < _; omega)).trans q1
          have HO5 : Hid (OwnJ w5 wr.heap.size (.slice (some ⟨g, 0, none⟩) (L ++ [(j : Int)]).length cap) (L ++ [(j : Int)])) := Lib.hid (by have := HO4.out.below hb5 (Nat.le_refl _); rw [List.length_append, List.length_singleton]; exact this)
          have hz5 := hb5.size
          have HI := Lib.hid (IH.out (L ++ [(j : Int)]) w5 wr.heap.size g cap (HSB.out.below HW5.out (Nat.le_refl _)) HO5.out (by omega) (by rw [List.length_append, List.length_singleton]; omega) HGN.out)
          have hln : (L ++ [(j : Int)]).length = L.length + 1 := by simp
          rw [hln, ← HRR.out] at HI
          clear hb5 HO4 HO5 HB4 HW4 HSB4 hln
          go_wp2_with fail
          refine HI.out.mono ?_
          rintro e w6 ⟨rfl, hb6⟩
          have hB6 := HB5.out.trans (hb6.mono (by omega))
          clear hb6
          go_wp2
          go_roundw
          case rel => exact ⟨j + 1, S + r, by omega, by go_num, by go_num, hSr, hB6, HN⟩
          case measure => simp [intOf]; omega
      · have HN := Lib.hid (show sumF f 0 k = S by rw [HR.out, show k - j = 0 by omega]; rfl)
        have t1 : decide ((j : Int) < (k : Int)) = false := by simp; omega
        go_wp2
        go_ret
        rw [HN.out]
        exact RV_of rfl hBw
end Go.Proofs.Ytkpnlecmfmbkaaa

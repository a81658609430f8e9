
/- The program's search for a colouring. FirstColouring and FirstStrict of the program, whole. Walks by two involutions, by turns: plain. Marking and holding rows of integers. Rows of rows of integers: equality, marks, and that they are still there. -/
import Derived.Test.YtkpnlecmfmbkaaaJ9
import Derived.Deep.Cut
import Derived.Deep.RegionWith
namespace Go.Proofs.Ytkpnlecmfmbkaaa
open Go.RowKit Go.Maps Go.Shelf
theorem gb_same {a b c : World} {row : Option Nat} (h : a.grownBy b row) (k : b.grownBy c row) : a.grownBy c row :=
  ⟨k.os.trans h.os, k.tape.trans h.tape, k.output.trans h.output, Nat.le_trans h.size k.size, fun i hi hne => (k.block i (Nat.lt_of_lt_of_le hi h.size) hne).trans (h.block i hi hne)⟩
theorem OwnJ.in_ {w : World} {base : Nat} {s : Value} {zs : List Int} (h : OwnJ w base s zs) : ∀ r, s.ownBlock = some r → base ≤ r ∧ r < w.heap.size := fun r e => by
  obtain ⟨hl, h | ⟨g, cap, cur, rfl, hb', hcur, hrest⟩⟩ := h
  · rw [h.1] at e; simp [Value.ownBlock] at e
  · obtain rfl : g = r := by simpa [Value.ownBlock] using e
    exact ⟨hb', (Array.getElem?_eq_some_iff.1 hcur).1⟩
theorem OwnJ.some_ {w : World} {base : Nat} {s : Value} {zs : List Int} (h : OwnJ w base s zs) (h0 : 0 < zs.length) : ∃ g cap, s = .slice (some ⟨g, 0, none⟩) zs.length cap := by
  rcases h.2 with ⟨_, e⟩ | ⟨g, cap, _, e, _⟩
  · omega
  · exact ⟨g, cap, e⟩
theorem gb_lo {w w' : World} {row : Option Nat} {B : Nat} (hg : w.grownBy w' row) (hB : B ≤ w.heap.size) (hr : ∀ r, row = some r → B ≤ r) : Below B w w' :=
  ⟨hg.os, hg.tape, hg.output, hg.size, fun k hk => hg.block k (by omega) (fun e => by have := hr k e.symm; omega)⟩
theorem gb_lo_refl (w : World) (row : Option Nat) : w.grownBy w row := ⟨rfl, rfl, rfl, Nat.le_refl _, fun _ _ _ => rfl⟩
/-- What was found lies behind the captured variable. -/
def FoundAt (w0 : World) (Bf n0 : Nat) (R : List Int) (W : World) : Prop := ∃ g cap, W.cell? ⟨Bf, 0, none⟩ = some (.slice (some ⟨g, 0, none⟩) R.length cap) ∧ OwnJ W n0 (.slice (some ⟨g, 0, none⟩) R.length cap) R ∧ Below Bf w0 W
set_option maxRecDepth 100000 in
theorem cloneI_any (s : Value) (zs : List Int) (w : World) (h : IA w s zs) (hl : zs.length ≤ 1100000) : Calls Try.prog 177 #[s] w (fun e w' => ∃ g cap, e = .returned (.slice (some ⟨g, 0, none⟩) zs.length cap) ∧ OwnJ w' w.heap.size (.slice (some ⟨g, 0, none⟩) zs.length cap) zs ∧ Below w.heap.size w w') := by
  have hform : ∃ b off c, s = .slice (some ⟨b, off, none⟩) zs.length c := by obtain ⟨b, off, cap, rfl, _⟩ := h; exact ⟨_, _, _, rfl⟩
  have H := Lib.hid h
  obtain ⟨b, off, c, rfl⟩ := hform
  clear h
  have ho0 := OwnJ.new0 w (base := w.heap.size) (Nat.le_refl _)
  have hB0 : Below w.heap.size w (w.alloc (.cells #[] 2)) := (Below.refl _ _).alloc (Nat.le_refl _) _
  have HO0 := Lib.hid ho0
  have HB0 := Lib.hid hB0
  clear ho0 hB0
  have hq : ∀ w, (binOp .eql 27 (.slice (some ⟨b, off, none⟩) zs.length c) (.slice none 0 0)).run Try.prog w = .ok (.bool false) w := fun _ => by kernel_rfl
  go_enter Try.func177, Try.ntmps177
  go_wp2_with (at_builtin; refine wpList_append_intsE rfl _ _ rfl w.heap.size w.heap.size rfl HO0.out _ zs rfl (H.out.below HB0.out (Nat.le_refl _)) (by omega) (by simp) ?_; intro g cap w4 hO4 hg4)
  go_ret
  exact ⟨g, cap, rfl, hO4, HB0.out.grown hg4 (by simp) (fun r e => by cases e; exact Nat.le_refl _)⟩
set_option maxRecDepth 100000 in
theorem visit_any (s : Value) (zs : List Int) (Bf : Nat) (u0 : Value) (w : World) (h : IA w s zs) (hl : zs.length ≤ 1100000) (hc : w.cell? ⟨Bf, 0, none⟩ = some u0) (hf : w.frozen? ⟨Bf, 0, none⟩ = false) (hlt : Bf < w.heap.size) :
    Calls Try.prog 199 #[s, .pointer (some ⟨Bf, 0, none⟩)] w (fun e w' => e = .returned (.bool false) ∧ ∃ g cap, w'.cell? ⟨Bf, 0, none⟩ = some (.slice (some ⟨g, 0, none⟩) zs.length cap) ∧ OwnJ w' w.heap.size (.slice (some ⟨g, 0, none⟩) zs.length cap) zs ∧ Below Bf w w') := by
  have HC := Lib.hid (cloneI_any s zs w h hl)
  have hform : ∃ b off c, s = .slice (some ⟨b, off, none⟩) zs.length c := by obtain ⟨b, off, cap, rfl, _⟩ := h; exact ⟨_, _, _, rfl⟩
  obtain ⟨b, off, c, rfl⟩ := hform
  clear h
  go_enter Try.func199, Try.ntmps199
  go_wp2_with fail
  refine HC.out.mono ?_
  rintro e w1 ⟨g, cap, rfl, hO, hb1⟩
  have c1 := (hb1.cell (p := ⟨Bf, 0, none⟩) hlt).trans hc
  have f1 := (hb1.frozen (p := ⟨Bf, 0, none⟩) hlt).trans hf
  have HO := Lib.hid hO
  clear hO hc hf HC
  go_wp2
  go_ret
  have hg := setG_gb w1 Bf 0 (.slice (some ⟨g, 0, none⟩) zs.length cap)
  have hb2 : Below Bf w w1 := hb1.mono (Nat.le_of_lt hlt)
  refine ⟨rfl, g, cap, World.cell?_setCell_same _ _ _ c1, ?_, hb2.setCell (p := ⟨Bf, 0, none⟩) (Nat.le_refl _) _⟩
  exact HO.out.kept hg (fun r hr => by cases hr; omega)
def EachQ (r : Option (List Int)) (v : Value) (L : List Int) (w0 : World) (Bf n0 : Nat) (w : World) (e : Ending) (w' : World) : Prop :=
  match r with
  | none => e = .returned (.bool true) ∧ w.grownBy w' v.ownBlock ∧ OwnJ w' n0 v L
  | some R => e = .returned (.bool false) ∧ FoundAt w0 Bf n0 R w'
set_option maxRecDepth 100000 in
set_option maxHeartbeats 8000000 in
theorem each_any (strict : Bool) (k least n G Bf : Nat) (uu : Nat → Value) (bs : List Blk) (w0 : World) (hT : TabB w0 G n (endB bs) uu) (hlb : bs.length ≤ 1100000) (hok : ∀ x ∈ bs, okB x) (hn3 : 3 ≤ n) (hn15 : n ≤ 15) (hk : k ≤ 6) (hle : least ≤ 6)
    (u0 : Value) (hc0 : w0.cell? ⟨Bf, 0, none⟩ = some u0) (hf0 : w0.frozen? ⟨Bf, 0, none⟩ = false) (hBf : Bf < w0.heap.size) :
    ∀ (d : Nat) (L : List Int) (used : Nat) (v : Value) (w : World) (_ : Below w0.heap.size w0 w) (_ : OwnJ w w0.heap.size v L) (_ : L.length + d = n) (_ : used ≤ 15),
    Calls Try.prog 138 #[srchV strict k least n G, v, .int .i64 (used : Int), .func (.func 199) #[] #[.pointer (some ⟨Bf, 0, none⟩)]] w (EachQ (findC strict bs k least d L used) v L w0 Bf w0.heap.size w) := by
  obtain ⟨T0, hT0⟩ := ruleV_form strict
  intro d
  induction d with
  | zero =>
    intro L used v w hB hO hL hu
    obtain ⟨g0, cap0, rfl⟩ := hO.some_ (by omega)
    have hLn : L.length = n := by omega
    have e1 : (n : Int) - (L.length : Int) = 0 := by omega
    have hb0 : Below w.heap.size w (w.alloc (.cells #[.iface T0 (.agg #[]), .int .i64 (k : Int), .int .i64 (least : Int), .slice (some ⟨G, 0, none⟩) n n] 122)) := (Below.refl _ _).alloc (Nat.le_refl _) _
    have HO := Lib.hid (hO.below hb0 (Nat.le_refl _))
    have hll : L.length ≤ 15 := by omega
    have hzw := hB.size
    by_cases hpr : used < least
    · have HV := Lib.hid (show findC strict bs k least 0 L used = none by simp [findC, hpr])
      rw [HV.out]
      have e3 : decide ((used : Int) < (least : Int)) = true := by simp; omega
      unfold srchV
      rw [hT0]
      clear hT0 hT hO hok hLn
      go_enter Try.func138, Try.ntmps138
      go_wp2
      go_ret
      exact ⟨rfl, only_of_below hb0 _, HO.out⟩
    · have HV := Lib.hid (show findC strict bs k least 0 L used = some L by simp [findC, hpr])
      rw [HV.out]
      have e3 : decide ((used : Int) < (least : Int)) = false := by simp; omega
      have HB1 := Lib.hid (hB.trans (hb0.mono hzw))
      have hc1 := (HB1.out.cell (p := ⟨Bf, 0, none⟩) hBf).trans hc0
      have hf1 := (HB1.out.frozen (p := ⟨Bf, 0, none⟩) hBf).trans hf0
      have HVI := Lib.hid (visit_any (.slice (some ⟨g0, 0, none⟩) L.length cap0) L Bf u0 _ (HO.out.ia (by omega)) (by omega) hc1 hf1 (by have := HB1.out.size; omega))
      unfold srchV
      rw [hT0]
      clear hT0 hT hO hok hLn hc1 hf1 hc0 hf0
      go_enter Try.func138, Try.ntmps138
      go_wp2_with fail
      refine HVI.out.mono ?_
      rintro e w2 ⟨rfl, g, cap, q1, q2, q3⟩
      have HQ := Lib.hid (show FoundAt w0 Bf w0.heap.size L w2 from ⟨g, cap, q1, ownsRow_base q2 HB1.out.size, (HB1.out.mono (by omega)).trans q3⟩)
      clear q1 q2 q3
      go_wp2
      go_ret
      exact ⟨rfl, HQ.out⟩
  | succ d ih =>
    intro L used v w hB hO hL hu
    obtain ⟨a5, c5, rfl⟩ := hO.formS
    have e1 : (n : Int) - (L.length : Int) = ((d + 1 : Nat) : Int) := by omega
    have e2 : (((d + 1 : Nat) : Int) == 0) = false := by simp; omega
    have e2' : ((d : Int) + 1 == 0) = false := by simp; omega
    have hb0 : Below w.heap.size w (w.alloc (.cells #[.iface T0 (.agg #[]), .int .i64 (k : Int), .int .i64 (least : Int), .slice (some ⟨G, 0, none⟩) n n] 122)) := (Below.refl _ _).alloc (Nat.le_refl _) _
    have hll : L.length ≤ 15 := by omega
    have hd15 : d ≤ 15 := by omega
    have hzw := hB.size
    by_cases hpr : used + (d + 1) < least
    · have HV := Lib.hid (show findC strict bs k least (d + 1) L used = none by simp [findC, hpr])
      rw [HV.out]
      have HO := Lib.hid (hO.below hb0 (Nat.le_refl _))
      have e3 : decide ((used : Int) + ((d + 1 : Nat) : Int) < (least : Int)) = true := by simp; omega
      have e3' : decide ((used : Int) + ((d : Int) + 1) < (least : Int)) = true := by simp; omega
      unfold srchV
      rw [hT0]
      clear hT0 hT hO hok ih
      go_enter Try.func138, Try.ntmps138
      go_wp2
      go_ret
      exact ⟨rfl, only_of_below hb0 _, HO.out⟩
    · have e3 : decide ((used : Int) + ((d + 1 : Nat) : Int) < (least : Int)) = false := by simp; omega
      have e3' : decide ((used : Int) + ((d : Int) + 1) < (least : Int)) = false := by simp; omega
      have HO0 := Lib.hid hO
      have HO2' := Lib.hid (hO.below hb0 (Nat.le_refl _))
      have HB0' := Lib.hid hb0
      have IH := Lib.hid ih
      have HFT := Lib.hid fun t zs W (hb : Below w0.heap.size w0 W) (ht : IB W t zs) (h0 : 0 < zs.length) (hn : zs.length ≤ n) => fits_any strict k least n G uu bs t zs W (hT.below hb) hlb hok ht h0 hn hn15
      obtain ⟨f, hf⟩ : ∃ f, f = fun c => if goodE strict bs (L ++ [((c : Nat) : Int)]) then findC strict bs k least d (L ++ [(c : Int)]) (max used (c + 1)) else none := ⟨_, rfl⟩
      have HF := Lib.hid hf
      obtain ⟨M, hM⟩ : ∃ M, M = min (used + 1) k := ⟨_, rfl⟩
      have HV := Lib.hid (show findC strict bs k least (d + 1) L used = tryN f 0 M by rw [hf, hM]; simp [findC, hpr])
      rw [HV.out]
      unfold srchV at *
      rw [hT0] at *
      obtain ⟨w2, hw2⟩ : ∃ w2, w2 = w.alloc (.cells #[.iface T0 (.agg #[]), .int .i64 (k : Int), .int .i64 (least : Int), .slice (some ⟨G, 0, none⟩) n n] 122) := ⟨_, rfl⟩
      have hz2 : w2.heap.size = w.heap.size + 1 := by rw [hw2]; simp
      have s0 : w2.cell? ⟨w.heap.size, 0, none⟩ = some (.iface T0 (.agg #[])) := by rw [hw2]; simp
      have s1 : w2.cell? ⟨w.heap.size, 1, none⟩ = some (.int .i64 (k : Int)) := by rw [hw2]; simp
      have s2 : w2.cell? ⟨w.heap.size, 2, none⟩ = some (.int .i64 (least : Int)) := by rw [hw2]; simp
      have s3 : w2.cell? ⟨w.heap.size, 3, none⟩ = some (.slice (some ⟨G, 0, none⟩) n n) := by rw [hw2]; simp
      have HB0 := Lib.hid (show Below w.heap.size w w2 by rw [hw2]; exact HB0'.out)
      have HO2 := Lib.hid (show OwnJ w2 w0.heap.size (.slice a5 L.length c5) L by rw [hw2]; exact HO2'.out)
      have HB2 := Lib.hid (show Below w0.heap.size w0 w2 from hB.trans (HB0.out.mono hzw))
      clear hO hT hok ih hf HV hb0 HO2' HB0' hB
      rcases Nat.lt_or_ge k (used + 1) with hku | hku
      · have hMk : M = k := by omega
        have HMK := Lib.hid hMk
        have hMle : M ≤ k := by omega
        have hMge : k ≤ M := by omega
        clear hM hMk
        go_enter Try.func138, Try.ntmps138
        go_wp2_with fail
        all_goals try (exfalso; omega)
        rw [← hw2]
        go_loopw [34] (fun i wr => ∃ j : Nat, j ≤ M ∧ i = .int .i64 j ∧ w2.grownBy wr (Value.slice a5 L.length c5).ownBlock ∧ OwnJ wr w0.heap.size (.slice a5 L.length c5) L ∧ Hid (tryN f 0 M = tryN f j (M - j))) (fun i _ => M - (intOf i).toNat)
        case atStart => exact ⟨0, Nat.zero_le _, rfl, gb_lo_refl _ _, HO2.out, Lib.hid rfl⟩
        case round =>
          obtain ⟨j, hj, rfl, hgr, hO, HR⟩ := hrel
          have HGR := Lib.hid hgr
          have HOW := Lib.hid hO
          have hz := hgr.size
          have HBR := Lib.hid (HB2.out.trans (gb_lo hgr (by omega) (fun r e => (HO2.out.in_ r e).1)))
          clear hgr hO
          by_cases hjl : j < M
          · have t1 : decide ((j : Int) < (k : Int)) = true := by simp; omega
            have HFJ := Lib.hid (show f j = if goodE strict bs (L ++ [(j : Int)]) then findC strict bs k least d (L ++ [(j : Int)]) (max used (j + 1)) else none by rw [HF.out])
            go_upto_region 10 with (at_builtin; refine wpList_append_one rfl _ _ rfl w0.heap.size (.slice a5 L.length c5) L rfl (by exact HOW.out.below ((Below.refl _ _).alloc (Nat.le_refl _) _) (Nat.le_refl _)) _ _ (j : Int) rfl (by simp [go_sem]) (by omega) (by simp; have := HBR.out.size; omega) ?_; intro g cap w4 hO4 hg4 hbk)
            have HBK := Lib.hid hbk
            have HG4 := Lib.hid hg4
            have hz4 := hg4.size
            simp at hz4
            have hgw4 := gb_same HGR.out (gb_trans (World.grownBy_alloc _ _ none) hg4)
            have HB4 := Lib.hid (HB2.out.trans (gb_lo hgw4 (by omega) (fun r e => (HO2.out.in_ r e).1)))
            have hne : some w.heap.size ≠ (Value.slice a5 L.length c5).ownBlock := fun e => by have := (HO0.out.in_ _ e.symm).2; omega
            have q0 := hgw4.cell s0 hne
            have q1 := hgw4.cell s1 hne
            have q2 := hgw4.cell s2 hne
            have q3 := hgw4.cell s3 hne
            have HO4 : Hid (OwnJ w4 w0.heap.size (.slice (some ⟨g, 0, none⟩) (L ++ [(j : Int)]).length cap) (L ++ [(j : Int)])) := Lib.hid (by rw [List.length_append, List.length_singleton]; exact hO4)
            have HFI := Lib.hid (HFT.out _ (L ++ [(j : Int)]) w4 HB4.out (HO4.out.ib (by rw [List.length_append, List.length_singleton]; omega)) (by simp) (by rw [List.length_append, List.length_singleton]; omega))
            have hln : (L ++ [(j : Int)]).length = L.length + 1 := by simp
            have hL15 : L.length + 1 ≤ 15 := by omega
            rw [hln] at HFI HO4
            clear hO4 hg4 hbk hgw4 hln hne
            cases hge : goodE strict bs (L ++ [(j : Int)]) with
            | false =>
              rw [hge] at HFI HFJ
              have HN := Lib.hid (show tryN f 0 M = tryN f (j + 1) (M - (j + 1)) by rw [HR.out, tryN_miss HFJ.out (by omega)]; congr 1)
              clear hge HFJ
              go_wp2_with fail
              refine HFI.out.mono ?_
              rintro e w5 ⟨rfl, hb5⟩
              have hg45 : w4.grownBy w5 (some g) := gb_trans (only_of_below hb5 none) (gb_lo_refl _ _)
              have hO5' := HBK.out.own hg45 (HO4.out.below hb5 (Nat.le_refl _))
              have hgw5 := gb_same HGR.out (gb_trans (World.grownBy_alloc _ _ none) (HBK.out.grown HG4.out hg45))
              clear hb5 hg45
              go_wp2
              go_roundw
              case rel => exact ⟨j + 1, by omega, by go_num, hgw5, hO5', HN⟩
              case measure => simp [intOf]; omega
            | true =>
              rw [hge] at HFI HFJ
              obtain ⟨r, hr⟩ : ∃ r, r = findC strict bs k least d (L ++ [(j : Int)]) (max used (j + 1)) := ⟨_, rfl⟩
              rw [if_pos rfl, ← hr] at HFJ
              have HRR := Lib.hid hr
              clear hge hr
              go_wp2_with fail
              refine HFI.out.mono ?_
              rintro e w5 ⟨rfl, hb5⟩
              have HG45 := Lib.hid (only_of_below hb5 none)
              have HB5 := Lib.hid (HB4.out.trans (hb5.mono (by have := HB4.out.size; omega)))
              have q0 := (hb5.cell (p := ⟨w.heap.size, 0, none⟩) (by show w.heap.size < _; omega)).trans q0
              have q1 := (hb5.cell (p := ⟨w.heap.size, 1, none⟩) (by show w.heap.size < _; omega)).trans q1
              have q2 := (hb5.cell (p := ⟨w.heap.size, 2, none⟩) (by show w.heap.size < _; omega)).trans q2
              have q3 := (hb5.cell (p := ⟨w.heap.size, 3, none⟩) (by show w.heap.size < _; omega)).trans q3
              have HI := Lib.hid (IH.out (L ++ [(j : Int)]) (max used (j + 1)) (.slice (some ⟨g, 0, none⟩) (L.length + 1) cap) w5 HB5.out (HO4.out.below hb5 (Nat.le_refl _)) (by rw [List.length_append, List.length_singleton]; omega) (by omega))
              rw [← HRR.out] at HI
              clear hb5
              by_cases hmx : used ≤ j
              · exfalso; omega
              · rw [show max used (j + 1) = used by omega] at HI
                have hmI : max (used : Int) ((j : Int) + 1) = (used : Int) := by omega
                cases hrr : r with
                | none =>
                  rw [hrr] at HI HFJ
                  have HN := Lib.hid (show tryN f 0 M = tryN f (j + 1) (M - (j + 1)) by rw [HR.out, tryN_miss HFJ.out (by omega)]; congr 1)
                  clear hrr HFJ HRR
                  go_wp2_with fail
                  all_goals try (exfalso; omega)
                  try rw [hmI]
                  refine HI.out.mono ?_
                  rintro e w6 ⟨rfl, hg6, hO6⟩
                  have hg46 := gb_trans HG45.out hg6
                  have hO6' := HBK.out.own hg46 hO6
                  have hgw6 := gb_same HGR.out (gb_trans (World.grownBy_alloc _ _ none) (HBK.out.grown HG4.out hg46))
                  clear hg6 hO6 hg46
                  go_wp2
                  go_roundw
                  case rel => exact ⟨j + 1, by omega, by go_num, hgw6, hO6', HN⟩
                  case measure => simp [intOf]; omega
                | some R =>
                  rw [hrr] at HI HFJ
                  have HN := Lib.hid (show tryN f 0 M = some R by rw [HR.out, tryN_hit HFJ.out (by omega)])
                  clear hrr HFJ HRR
                  go_wp2_with fail
                  all_goals try (exfalso; omega)
                  try rw [hmI]
                  refine HI.out.mono ?_
                  rintro e w6 ⟨rfl, hF6⟩
                  have HF6 := Lib.hid hF6
                  clear hF6
                  go_wp2
                  go_ret
                  rw [HN.out]
                  exact ⟨rfl, HF6.out⟩
          · have HN := Lib.hid (show tryN f 0 M = none by rw [HR.out, show M - j = 0 by omega]; rfl)
            have t1 : decide ((j : Int) < (k : Int)) = false := by simp; omega
            have t2 : (k : Int) ≤ (j : Int) := by omega
            go_wp2
            go_ret
            rw [HN.out]
            exact ⟨rfl, gb_same (only_of_below HB0.out _) HGR.out, HOW.out⟩
      · have hMk : M = used + 1 := by omega
        have HMK := Lib.hid hMk
        have hMle : M ≤ used + 1 := by omega
        have hMge : used + 1 ≤ M := by omega
        clear hM hMk
        go_enter Try.func138, Try.ntmps138
        go_wp2_with fail
        all_goals try (exfalso; omega)
        rw [← hw2]
        go_loopw [34] (fun i wr => ∃ j : Nat, j ≤ M ∧ i = .int .i64 j ∧ w2.grownBy wr (Value.slice a5 L.length c5).ownBlock ∧ OwnJ wr w0.heap.size (.slice a5 L.length c5) L ∧ Hid (tryN f 0 M = tryN f j (M - j))) (fun i _ => M - (intOf i).toNat)
        case atStart => exact ⟨0, Nat.zero_le _, rfl, gb_lo_refl _ _, HO2.out, Lib.hid rfl⟩
        case round =>
          obtain ⟨j, hj, rfl, hgr, hO, HR⟩ := hrel
          have HGR := Lib.hid hgr
          have HOW := Lib.hid hO
          have hz := hgr.size
          have HBR := Lib.hid (HB2.out.trans (gb_lo hgr (by omega) (fun r e => (HO2.out.in_ r e).1)))
          clear hgr hO
          by_cases hjl : j < M
          · have t1 : decide ((j : Int) < (used : Int) + 1) = true := by simp; omega
            have HFJ := Lib.hid (show f j = if goodE strict bs (L ++ [(j : Int)]) then findC strict bs k least d (L ++ [(j : Int)]) (max used (j + 1)) else none by rw [HF.out])
            go_upto_region 10 with (at_builtin; refine wpList_append_one rfl _ _ rfl w0.heap.size (.slice a5 L.length c5) L rfl (by exact HOW.out.below ((Below.refl _ _).alloc (Nat.le_refl _) _) (Nat.le_refl _)) _ _ (j : Int) rfl (by simp [go_sem]) (by omega) (by simp; have := HBR.out.size; omega) ?_; intro g cap w4 hO4 hg4 hbk)
            have HBK := Lib.hid hbk
            have HG4 := Lib.hid hg4
            have hz4 := hg4.size
            simp at hz4
            have hgw4 := gb_same HGR.out (gb_trans (World.grownBy_alloc _ _ none) hg4)
            have HB4 := Lib.hid (HB2.out.trans (gb_lo hgw4 (by omega) (fun r e => (HO2.out.in_ r e).1)))
            have hne : some w.heap.size ≠ (Value.slice a5 L.length c5).ownBlock := fun e => by have := (HO0.out.in_ _ e.symm).2; omega
            have q0 := hgw4.cell s0 hne
            have q1 := hgw4.cell s1 hne
            have q2 := hgw4.cell s2 hne
            have q3 := hgw4.cell s3 hne
            have HO4 : Hid (OwnJ w4 w0.heap.size (.slice (some ⟨g, 0, none⟩) (L ++ [(j : Int)]).length cap) (L ++ [(j : Int)])) := Lib.hid (by rw [List.length_append, List.length_singleton]; exact hO4)
            have HFI := Lib.hid (HFT.out _ (L ++ [(j : Int)]) w4 HB4.out (HO4.out.ib (by rw [List.length_append, List.length_singleton]; omega)) (by simp) (by rw [List.length_append, List.length_singleton]; omega))
            have hln : (L ++ [(j : Int)]).length = L.length + 1 := by simp
            have hL15 : L.length + 1 ≤ 15 := by omega
            rw [hln] at HFI HO4
            clear hO4 hg4 hbk hgw4 hln hne
            cases hge : goodE strict bs (L ++ [(j : Int)]) with
            | false =>
              rw [hge] at HFI HFJ
              have HN := Lib.hid (show tryN f 0 M = tryN f (j + 1) (M - (j + 1)) by rw [HR.out, tryN_miss HFJ.out (by omega)]; congr 1)
              clear hge HFJ
              go_wp2_with fail
              refine HFI.out.mono ?_
              rintro e w5 ⟨rfl, hb5⟩
              have hg45 : w4.grownBy w5 (some g) := gb_trans (only_of_below hb5 none) (gb_lo_refl _ _)
              have hO5' := HBK.out.own hg45 (HO4.out.below hb5 (Nat.le_refl _))
              have hgw5 := gb_same HGR.out (gb_trans (World.grownBy_alloc _ _ none) (HBK.out.grown HG4.out hg45))
              clear hb5 hg45
              go_wp2
              go_roundw
              case rel => exact ⟨j + 1, by omega, by go_num, hgw5, hO5', HN⟩
              case measure => simp [intOf]; omega
            | true =>
              rw [hge] at HFI HFJ
              obtain ⟨r, hr⟩ : ∃ r, r = findC strict bs k least d (L ++ [(j : Int)]) (max used (j + 1)) := ⟨_, rfl⟩
              rw [if_pos rfl, ← hr] at HFJ
              have HRR := Lib.hid hr
              clear hge hr
              go_wp2_with fail
              refine HFI.out.mono ?_
              rintro e w5 ⟨rfl, hb5⟩
              have HG45 := Lib.hid (only_of_below hb5 none)
              have HB5 := Lib.hid (HB4.out.trans (hb5.mono (by have := HB4.out.size; omega)))
              have q0 := (hb5.cell (p := ⟨w.heap.size, 0, none⟩) (by show w.heap.size < _; omega)).trans q0
              have q1 := (hb5.cell (p := ⟨w.heap.size, 1, none⟩) (by show w.heap.size < _; omega)).trans q1
              have q2 := (hb5.cell (p := ⟨w.heap.size, 2, none⟩) (by show w.heap.size < _; omega)).trans q2
              have q3 := (hb5.cell (p := ⟨w.heap.size, 3, none⟩) (by show w.heap.size < _; omega)).trans q3
              have HI := Lib.hid (IH.out (L ++ [(j : Int)]) (max used (j + 1)) (.slice (some ⟨g, 0, none⟩) (L.length + 1) cap) w5 HB5.out (HO4.out.below hb5 (Nat.le_refl _)) (by rw [List.length_append, List.length_singleton]; omega) (by omega))
              rw [← HRR.out] at HI
              clear hb5
              by_cases hmx : used ≤ j
              · rw [show max used (j + 1) = j + 1 by omega] at HI
                have hmI : max (used : Int) ((j : Int) + 1) = ((j + 1 : Nat) : Int) := by omega
                cases hrr : r with
                | none =>
                  rw [hrr] at HI HFJ
                  have HN := Lib.hid (show tryN f 0 M = tryN f (j + 1) (M - (j + 1)) by rw [HR.out, tryN_miss HFJ.out (by omega)]; congr 1)
                  clear hrr HFJ HRR
                  go_wp2_with fail
                  all_goals try (exfalso; omega)
                  try rw [hmI]
                  refine HI.out.mono ?_
                  rintro e w6 ⟨rfl, hg6, hO6⟩
                  have hg46 := gb_trans HG45.out hg6
                  have hO6' := HBK.out.own hg46 hO6
                  have hgw6 := gb_same HGR.out (gb_trans (World.grownBy_alloc _ _ none) (HBK.out.grown HG4.out hg46))
                  clear hg6 hO6 hg46
                  go_wp2
                  go_roundw
                  case rel => exact ⟨j + 1, by omega, by go_num, hgw6, hO6', HN⟩
                  case measure => simp [intOf]; omega
                | some R =>
                  rw [hrr] at HI HFJ
                  have HN := Lib.hid (show tryN f 0 M = some R by rw [HR.out, tryN_hit HFJ.out (by omega)])
                  clear hrr HFJ HRR
                  go_wp2_with fail
                  all_goals try (exfalso; omega)
                  try rw [hmI]
                  refine HI.out.mono ?_
                  rintro e w6 ⟨rfl, hF6⟩
                  have HF6 := Lib.hid hF6
                  clear hF6
                  go_wp2
                  go_ret
                  rw [HN.out]
                  exact ⟨rfl, HF6.out⟩
              · rw [show max used (j + 1) = used by omega] at HI
                have hmI : max (used : Int) ((j : Int) + 1) = (used : Int) := by omega
                cases hrr : r with
                | none =>
                  rw [hrr] at HI HFJ
                  have HN := Lib.hid (show tryN f 0 M = tryN f (j + 1) (M - (j + 1)) by rw [HR.out, tryN_miss HFJ.out (by omega)]; congr 1)
                  clear hrr HFJ HRR
                  go_wp2_with fail
                  all_goals try (exfalso; omega)
                  try rw [hmI]
                  refine HI.out.mono ?_
                  rintro e w6 ⟨rfl, hg6, hO6⟩
                  have hg46 := gb_trans HG45.out hg6
                  have hO6' := HBK.out.own hg46 hO6
                  have hgw6 := gb_same HGR.out (gb_trans (World.grownBy_alloc _ _ none) (HBK.out.grown HG4.out hg46))
                  clear hg6 hO6 hg46
                  go_wp2
                  go_roundw
                  case rel => exact ⟨j + 1, by omega, by go_num, hgw6, hO6', HN⟩
                  case measure => simp [intOf]; omega
                | some R =>
                  rw [hrr] at HI HFJ
                  have HN := Lib.hid (show tryN f 0 M = some R by rw [HR.out, tryN_hit HFJ.out (by omega)])
                  clear hrr HFJ HRR
                  go_wp2_with fail
                  all_goals try (exfalso; omega)
                  try rw [hmI]
                  refine HI.out.mono ?_
                  rintro e w6 ⟨rfl, hF6⟩
                  have HF6 := Lib.hid hF6
                  clear hF6
                  go_wp2
                  go_ret
                  rw [HN.out]
                  exact ⟨rfl, HF6.out⟩
          · have HN := Lib.hid (show tryN f 0 M = none by rw [HR.out, show M - j = 0 by omega]; rfl)
            have t1 : decide ((j : Int) < (used : Int) + 1) = false := by simp; omega
            have t2 : (used : Int) + 1 ≤ (j : Int) := by omega
            go_wp2
            go_ret
            rw [HN.out]
            exact ⟨rfl, gb_same (only_of_below HB0.out _) HGR.out, HOW.out⟩
end Go.Proofs.Ytkpnlecmfmbkaaa

namespace Go.Proofs.Ytkpnlecmfmbkaaa
open Go.RowKit Go.Maps Go.Shelf
set_option maxRecDepth 100000 in
set_option maxHeartbeats 4000000 in
theorem firstList_any (strict : Bool) (v : Int) (s : Value) (bs : List Blk) (k least : Int) (w : World) (h : SB w s bs) (hls : 1 ≤ k → k ≤ 6 → least = ((leastOf strict k.toNat : Nat) : Int)) :
    Calls Try.prog 135 #[.agg #[.int .i64 v, s], ruleV strict, .int .i64 k, .int .i64 least] w (RJ (firF strict v bs k) w) := by
  have HI := Lib.hid fun W (hb : Below w.heap.size w W) => IsSystem_any v s bs W (h.below hb (Nat.le_refl _))
  have HN := Lib.hid fun W => isColourNumber_any k W
  have hb0 := (Below.refl w.heap.size w).alloc (Nat.le_refl _) (.cells #[.int .i64 v, s] 32)
  have HSB := Lib.hid h
  have hlb := h.2.1
  obtain ⟨T0, hT0⟩ := ruleV_form strict
  obtain ⟨a0, c0, rfl⟩ := h.slice
  clear h
  cases hi : isSysImpl v bs with
  | false =>
    have HV := Lib.hid (show firF strict v bs k = ([], 1) by simp [firF, hi])
    rw [hi] at HI
    rw [HV.out, hT0]
    clear hi hls HN HSB
    go_enter Try.func135, Try.ntmps135
    go_wp2_with fail
    refine (HI.out _ hb0).mono ?_
    rintro e w1 ⟨rfl, hb1⟩
    have hbw := below_new hb1
    clear hb1
    go_wp2
    go_ret2
    exact ⟨_, rfl, OwnJ.nil _ _, hbw⟩
  | true =>
    rw [hi] at HI
    cases hk : (decide (1 ≤ k) && decide (k ≤ 6)) with
    | false =>
      have HV := Lib.hid (show firF strict v bs k = ([], 2) by simp only [firF, hi, hk]; simp)
      rw [hk] at HN
      rw [HV.out, hT0]
      clear hi hk hls HSB
      go_enter Try.func135, Try.ntmps135
      go_wp2_with fail
      refine (HI.out _ hb0).mono ?_
      rintro e w1 ⟨rfl, hb1⟩
      have hbw := below_new hb1
      clear hb1
      go_wp2_with fail
      refine (HN.out _).mono ?_
      rintro e w2 ⟨rfl, rfl⟩
      go_wp2
      go_ret2
      exact ⟨_, rfl, OwnJ.nil _ _, hbw⟩
    | true =>
      rw [hk] at HN
      have hk1 : 1 ≤ k ∧ k ≤ 6 := by simpa using hk
      obtain ⟨k1, k6⟩ := hk1
      obtain ⟨v3, v15, _⟩ := sys_size hi
      have hok := sys_ok hi
      have hokc : ∀ x ∈ bs, okB x ∧ x.c < v := fun x hx => ⟨hok x hx, (goodB_iff.1 (sys_good hi x hx)).2.2.2⟩
      have hls2 := hls k1 k6
      obtain ⟨n, rfl⟩ : ∃ n : Nat, v = n := ⟨v.toNat, by omega⟩
      obtain ⟨kn, rfl⟩ : ∃ n : Nat, k = n := ⟨k.toNat, by omega⟩
      rw [Int.toNat_natCast] at hls2
      obtain ⟨ln, hln⟩ : ∃ ln, ln = leastOf strict kn := ⟨_, rfl⟩
      have hl6 : ln ≤ 6 := by rw [hln]; unfold leastOf; split <;> omega
      rw [← hln] at hls2
      subst hls2
      obtain ⟨r, hr⟩ : ∃ r, r = findC strict bs kn ln n [] 0 := ⟨_, rfl⟩
      have HV := Lib.hid (show firF strict (n : Int) bs (kn : Int) = firR r by unfold firF; rw [if_pos hi, if_pos (by simp; omega), Int.toNat_natCast, Int.toNat_natCast, hr, hln])
      have HSO := Lib.hid fun W (hb : Below w.heap.size w W) => searchOf_any strict n kn ln (.slice a0 bs.length c0) bs W (HSB.out.below hb (Nat.le_refl _)) hokc (by omega) (by omega)
      have HEA := Lib.hid fun G Bf uu W (hT : TabB W G n (endB bs) uu) (hc0 : W.cell? ⟨Bf, 0, none⟩ = some (.slice none 0 0)) (hf0 : W.frozen? ⟨Bf, 0, none⟩ = false) (hBf : Bf < W.heap.size) => each_any strict kn ln n G Bf uu bs W hT hlb hok (by omega) (by omega) (by omega) hl6 (.slice none 0 0) hc0 hf0 hBf n [] 0 (.slice none 0 0) W (Below.refl _ _) (OwnJ.nil _ _) (by simp) (by omega)
      rw [← hr] at HEA
      unfold srchV at HEA
      rw [hT0] at HSO HEA ⊢
      clear hi hk hls hok hokc hr hln HSB hT0
      go_enter Try.func135, Try.ntmps135
      go_wp2_with fail
      refine (HI.out _ hb0).mono ?_
      rintro e w1 ⟨rfl, hb1⟩
      have q0 := cell_new hb1 0 rfl
      have q1 := cell_new hb1 1 rfl
      have hbw := below_new hb1
      clear hb1
      have hb2 : Below w1.heap.size w1 (w1.alloc (.cells #[.slice none 0 0] 27)) := (Below.refl _ _).alloc (Nat.le_refl _) _
      have c2 : (w1.alloc (.cells #[.slice none 0 0] 27)).cell? ⟨w1.heap.size, 0, none⟩ = some (.slice none 0 0) := by simp
      have f2 : (w1.alloc (.cells #[.slice none 0 0] 27)).frozen? ⟨w1.heap.size, 0, none⟩ = false := by simp
      have hz2 : w1.heap.size < (w1.alloc (.cells #[.slice none 0 0] 27)).heap.size := by simp
      have hlt1 : w.heap.size < w1.heap.size := block_lt_of_cell q0
      have q0 := (hb2.cell (p := ⟨w.heap.size, 0, none⟩) hlt1).trans q0
      have q1 := (hb2.cell (p := ⟨w.heap.size, 1, none⟩) hlt1).trans q1
      go_wp2_with fail
      refine (HN.out _).mono ?_
      rintro e w2 ⟨rfl, rfl⟩
      go_wp2_with fail
      have hbw2 := hbw.trans (hb2.mono hbw.size)
      refine (HSO.out _ hbw2).mono ?_
      rintro e w3 ⟨G, uu, rfl, hT, hG, hb3⟩
      have c3 := (hb3.cell (p := ⟨w1.heap.size, 0, none⟩) hz2).trans c2
      have f3 := (hb3.frozen (p := ⟨w1.heap.size, 0, none⟩) hz2).trans f2
      have hz3 := hb3.size
      have hbw3 := hbw2.trans (hb3.mono hbw2.size)
      have HEE := Lib.hid (HEA.out G w1.heap.size uu w3 hT c3 f3 (by omega))
      clear hT hb3 hb2 c2 f2 HSO HEA
      cases r with
      | none =>
        have HV2 := Lib.hid (HV.out.trans (rfl : firR none = ([], 4)))
        clear HV
        go_wp2_with fail
        refine HEE.out.mono ?_
        rintro e w4 ⟨rfl, hg4, _⟩
        have hbw4 := hbw3.trans (gb_lo hg4 hbw3.size (fun r e => by simp [Value.ownBlock] at e))
        clear hg4
        go_wp2
        go_ret2
        rw [HV2.out]
        exact ⟨_, rfl, OwnJ.nil _ _, hbw4⟩
      | some R =>
        have HV2 := Lib.hid (HV.out.trans (rfl : firR (some R) = (R, 0)))
        clear HV
        go_wp2_with fail
        refine HEE.out.mono ?_
        rintro e w4 ⟨rfl, g, cap, d4, hO4, hb4⟩
        have hbw4 := hbw3.trans (hb4.mono hbw.size)
        have HO4 : Hid (OwnJ w4 w.heap.size (.slice (some ⟨g, 0, none⟩) R.length cap) R) := Lib.hid (ownsRow_base hO4 hbw3.size)
        clear hO4 hb4 q0 q1 c3 f3
        go_wp2
        go_ret2
        rw [HV2.out]
        exact ⟨_, rfl, HO4.out, hbw4⟩
set_option maxRecDepth 100000 in
theorem FirstColouring_any (v : Int) (s : Value) (bs : List Blk) (k : Int) (w : World) (h : SB w s bs) :
    Calls Try.prog 73 #[.agg #[.int .i64 v, s], .int .i64 k] w (RJ (firF false v bs k) w) := by
  have HK : Hid (∀ W, Below w.heap.size w W → Calls Try.prog 135 #[.agg #[.int .i64 v, s], .iface 113 (.agg #[]), .int .i64 k, .int .i64 1] W (RJ (firF false v bs k) W)) := Lib.hid fun W hb => firstList_any false v s bs k 1 W (h.below hb (Nat.le_refl _)) (fun _ _ => rfl)
  obtain ⟨a0, c0, rfl⟩ := h.slice
  obtain ⟨F, hF⟩ : ∃ F, F = firF false v bs k := ⟨_, rfl⟩
  rw [← hF] at HK ⊢
  obtain ⟨R, κ⟩ := F
  clear h hF
  go_enter Try.func73, Try.ntmps73
  go_wp2_with fail
  refine (HK.out _ ((Below.refl _ _).alloc (Nat.le_refl _) _)).mono ?_
  rintro e w1 ⟨u, rfl, hO, hb1⟩
  have hbw := below_new hb1
  have HO : Hid (OwnJ w1 w.heap.size u R) := Lib.hid (ownsRow_base hO (by simp))
  obtain ⟨a6, c6, rfl⟩ := OwnJ.formS HO.out
  clear hO hb1
  go_wp2
  go_ret2
  exact ⟨_, rfl, HO.out, hbw⟩
set_option maxRecDepth 100000 in
theorem FirstStrict_any (v : Int) (s : Value) (bs : List Blk) (k : Int) (w : World) (h : SB w s bs) :
    Calls Try.prog 75 #[.agg #[.int .i64 v, s], .int .i64 k] w (RJ (firF true v bs k) w) := by
  have HK : Hid (∀ W, Below w.heap.size w W → Calls Try.prog 135 #[.agg #[.int .i64 v, s], .iface 114 (.agg #[]), .int .i64 k, .int .i64 k] W (RJ (firF true v bs k) W)) := Lib.hid fun W hb => firstList_any true v s bs k k W (h.below hb (Nat.le_refl _)) (fun h1 _ => by rw [least_true]; omega)
  obtain ⟨a0, c0, rfl⟩ := h.slice
  obtain ⟨F, hF⟩ : ∃ F, F = firF true v bs k := ⟨_, rfl⟩
  rw [← hF] at HK ⊢
  obtain ⟨R, κ⟩ := F
  clear h hF
  go_enter Try.func75, Try.ntmps75
  go_wp2_with fail
  refine (HK.out _ ((Below.refl _ _).alloc (Nat.le_refl _) _)).mono ?_
  rintro e w1 ⟨u, rfl, hO, hb1⟩
  have hbw := below_new hb1
  have HO : Hid (OwnJ w1 w.heap.size u R) := Lib.hid (ownsRow_base hO (by simp))
  obtain ⟨a6, c6, rfl⟩ := OwnJ.formS HO.out
  clear hO hb1
  go_wp2
  go_ret2
  exact ⟨_, rfl, HO.out, hbw⟩
end Go.Proofs.Ytkpnlecmfmbkaaa

namespace Go.Proofs.Ytkpnlecmfmbkaaa
section
variable {X : Type} (f g : X → X) (S : X → Prop)
/-- The k-th point of the walk: by f first, then by g, and so on. -/
def stepN (p : X) : Nat → X
  | 0 => p
  | k + 1 => if k % 2 = 0 then f (stepN p k) else g (stepN p k)
/-- Two involutions of a set that have no fixed point and nowhere agree. -/
structure Two : Prop where
  fin : ∀ x, S x → S (f x)
  gin : ∀ x, S x → S (g x)
  ff : ∀ x, S x → f (f x) = x
  gg : ∀ x, S x → g (g x) = x
  fne : ∀ x, S x → f x ≠ x
  gne : ∀ x, S x → g x ≠ x
  fg : ∀ x, S x → f x ≠ g x
variable {f g S}
theorem Two.mem (h : Two f g S) {p : X} (hp : S p) : ∀ k, S (stepN f g p k)
  | 0 => hp
  | k + 1 => by
    unfold stepN
    split
    · exact h.fin _ (h.mem hp k)
    · exact h.gin _ (h.mem hp k)
/-- A step back. -/
theorem Two.back (h : Two f g S) {p : X} (hp : S p) (k : Nat) : (if k % 2 = 0 then f (stepN f g p (k + 1)) else g (stepN f g p (k + 1))) = stepN f g p k := by
  have hk := h.mem hp k
  show (if k % 2 = 0 then f (if k % 2 = 0 then f (stepN f g p k) else g (stepN f g p k)) else g (if k % 2 = 0 then f (stepN f g p k) else g (stepN f g p k))) = stepN f g p k
  split
  · exact h.ff _ hk
  · exact h.gg _ hk
/-- Until k no point comes twice. -/
def Fresh (f g : X → X) (p : X) (k : Nat) : Prop := ∀ i j, i < j → j < k → stepN f g p i ≠ stepN f g p j
/-- The first point that comes again is the first one, behind a step by g. -/
theorem Two.first (h : Two f g S) {p : X} (hp : S p) {j i : Nat} (hf : Fresh f g p j) (hij : i < j) (he : stepN f g p j = stepN f g p i) : i = 0 ∧ j % 2 = 0 := by
  obtain ⟨m, rfl⟩ : ∃ m, j = m + 1 := ⟨j - 1, by omega⟩
  have hb := h.back hp m
  rw [he] at hb
  -- the neighbours of the i-th point
  by_cases hi : i = 0
  · subst hi
    refine ⟨rfl, ?_⟩
    apply Classical.byContradiction
    intro hodd
    rw [if_pos (by omega)] at hb
    -- f p is the first point, and the m-th
    have h1 : stepN f g p 1 = f (stepN f g p 0) := rfl
    rw [← h1] at hb
    rcases Nat.eq_zero_or_pos m with rfl | hm
    · exact h.fne _ (h.mem hp 0) (hb : f (stepN f g p 0) = stepN f g p 0)
    · rcases Nat.lt_or_ge 1 m with h2 | h2
      · exact hf 1 m h2 (by omega) hb
      · omega
  · exfalso
    obtain ⟨l, rfl⟩ : ∃ l, i = l + 1 := ⟨i - 1, by omega⟩
    have hback := h.back hp l
    have hnext : stepN f g p (l + 1 + 1) = if (l + 1) % 2 = 0 then f (stepN f g p (l + 1)) else g (stepN f g p (l + 1)) := rfl
    by_cases hpar : l % 2 = m % 2
    · -- the same kind of step: the m-th is the l-th
      have : stepN f g p m = stepN f g p l := by
        rw [← hb, ← hback]
        simp only [hpar]
      exact hf l m (by omega) (by omega) this.symm
    · have hq : stepN f g p m = stepN f g p (l + 1 + 1) := by
        rw [← hb, hnext]
        by_cases e : m % 2 = 0
        · rw [if_pos e, if_pos (by omega)]
        · rw [if_neg e, if_neg (by omega)]
      rcases Nat.lt_or_ge (l + 1 + 1) m with h2 | h2
      · exact hf (l + 1 + 1) m h2 (by omega) hq.symm
      · rcases Nat.eq_or_lt_of_le h2 with h3 | h3
        · -- m = l + 2: the kinds are the same
          omega
        · -- m = l + 1: a fixed point
          have hm : m = l + 1 := by omega
          subst hm
          have hx := h.mem hp (l + 1)
          rw [hnext] at hq
          split at hq
          · exact h.fne _ hx hq.symm
          · exact h.gne _ hx hq.symm
/-- There is a first point that comes again: within as many steps as the set has points. -/
theorem fresh_len {p : X} {l : List X} (hl : ∀ k, stepN f g p k ∈ l) {k : Nat} (hf : Fresh f g p k) : k ≤ l.length := by
  have hn : ((List.range k).map (stepN f g p)).Nodup := by
    rw [List.Nodup, List.pairwise_map]
    exact List.pairwise_lt_range.imp_of_mem fun {a b} _ hb hab e => hf a b hab (List.mem_range.1 hb) e
  have := List.Nodup.length_le_of_subset hn (l₂ := l) (fun x hx => by obtain ⟨i, _, rfl⟩ := List.mem_map.1 hx; exact hl i)
  simpa using this
theorem fresh_zero (p : X) : Fresh f g p 0 := fun _ _ _ h => absurd h (Nat.not_lt_zero _)
theorem fresh_succ {p : X} {k : Nat} (hf : Fresh f g p k) (h : ∀ i, i < k → stepN f g p k ≠ stepN f g p i) : Fresh f g p (k + 1) := fun i j hij hj => by
  rcases Nat.lt_or_ge j k with h1 | h1
  · exact hf i j hij h1
  · obtain rfl : j = k := by omega
    exact fun e => h i hij e.symm
/-- The period. -/
theorem Two.period (h : Two f g S) {p : X} (hp : S p) {l : List X} (hl : ∀ x, S x → x ∈ l) : ∃ N, 0 < N ∧ N % 2 = 0 ∧ N ≤ l.length ∧ Fresh f g p N ∧ stepN f g p N = p := by
  have hs : ∀ n k, l.length + 1 - k ≤ n → Fresh f g p k → 0 < k → ∃ N, 0 < N ∧ N % 2 = 0 ∧ N ≤ l.length ∧ Fresh f g p N ∧ stepN f g p N = p := by
    intro n
    induction n with
    | zero =>
      intro k hk hf _
      have := fresh_len (l := l) (fun k => hl _ (h.mem hp k)) hf
      omega
    | succ n ih =>
      intro k hk hf h0
      by_cases hc : ∃ i, i < k ∧ stepN f g p k = stepN f g p i
      · obtain ⟨i, hi, he⟩ := hc
        obtain ⟨rfl, h2⟩ := h.first hp hf hi he
        exact ⟨k, h0, h2, fresh_len (l := l) (fun k => hl _ (h.mem hp k)) hf, hf, he⟩
      · refine ih (k + 1) (by omega) (fresh_succ hf fun i hi e => hc ⟨i, hi, e⟩) (by omega)
  exact hs _ 1 (Nat.le_refl _) (fun i j hij hj => by omega) (by decide)
/-- The points of a cycle are closed under both. -/
theorem Two.closed (h : Two f g S) {p : X} (hp : S p) {N : Nat} (h0 : 0 < N) (h2 : N % 2 = 0) (he : stepN f g p N = p) {k : Nat} (hk : k < N) : (∃ i, i < N ∧ f (stepN f g p k) = stepN f g p i) ∧ ∃ i, i < N ∧ g (stepN f g p k) = stepN f g p i := by
  by_cases hk2 : k % 2 = 0
  · refine ⟨⟨k + 1, by omega, by show _ = (if k % 2 = 0 then _ else _); rw [if_pos hk2]⟩, ?_⟩
    rcases Nat.eq_zero_or_pos k with rfl | h1
    · refine ⟨N - 1, by omega, ?_⟩
      have hb := h.back hp (N - 1)
      rw [show N - 1 + 1 = N by omega, he, if_neg (by omega)] at hb
      exact hb
    · refine ⟨k - 1, by omega, ?_⟩
      have hb := h.back hp (k - 1)
      rw [show k - 1 + 1 = k by omega, if_neg (by omega)] at hb
      exact hb
  · constructor
    · refine ⟨k - 1, by omega, ?_⟩
      have hb := h.back hp (k - 1)
      rw [show k - 1 + 1 = k by omega, if_pos (by omega)] at hb
      exact hb
    · rcases Nat.lt_or_ge (k + 1) N with h3 | h3
      · exact ⟨k + 1, h3, by show _ = (if k % 2 = 0 then _ else _); rw [if_neg hk2]⟩
      · have hN : k + 1 = N := by omega
        have hst : stepN f g p (k + 1) = g (stepN f g p k) := by
          show (if k % 2 = 0 then _ else _) = _
          rw [if_neg hk2]
        refine ⟨0, h0, ?_⟩
        rw [← hst, hN, he]
        rfl
end
end Go.Proofs.Ytkpnlecmfmbkaaa

namespace Go.Proofs.Ytkpnlecmfmbkaaa
open Go.RowKit Go.Maps
/-- The row at the head of block g holds just these integers and may be written. -/
structure OwnAtI (w : World) (g : Nat) (zs : List Int) : Prop where
  lt : g < w.heap.size
  at_ : Ints w g 0 zs
  free : ∀ o, w.frozen? ⟨g, o, none⟩ = false
theorem OwnAtI.kept {w w' : World} {g : Nat} {zs : List Int} {row : Option Nat} (h : OwnAtI w g zs) (hg : w.grownBy w' row) (hne : some g ≠ row) : OwnAtI w' g zs := by
  have hb := hg.block g h.lt hne
  exact ⟨Nat.lt_of_lt_of_le h.lt hg.size, fun k hk => (World.cell?_of_block (w := w) (a := ⟨g, _, none⟩) hb).trans (h.at_ k hk), fun o => (World.frozen?_of_block (w := w) (a := ⟨g, o, none⟩) hb).trans (h.free o)⟩
theorem Ints.set {w : World} {g : Nat} {l : List Int} (h : Ints w g 0 l) {i : Nat} (hi : i < l.length) (x : Int) : Ints (w.setCell ⟨g, i, none⟩ (.int .i64 x)) g 0 (l.set i x) := by
  intro k hk
  rw [List.length_set] at hk
  have hk' := h k hk
  have hi' := h i hi
  rw [Nat.zero_add] at hk' hi' ⊢
  by_cases e : k = i
  · subst e
    rw [World.cell?_setCell_same' _ _ _ (by rw [hi']; rfl)]
    simp [hk]
  · rw [World.cell?_setCell_other _ _ _ _ (by simp <;> omega), hk', List.getElem?_set_ne (Ne.symm e)]
def markI (k : Int) (n : Nat) : List Int := (List.range n).map fun (t : Nat) => k + (t : Int)
theorem markI_length (k : Int) (n : Nat) : (markI k n).length = n := by simp [markI]
theorem markI_next {k : Int} {i : Nat} {zs : List Int} (h : i < zs.length) : (markI k i ++ zs.drop i).set i (k + i) = markI k (i + 1) ++ zs.drop (i + 1) := by
  rw [List.drop_eq_getElem_cons h, List.set_append_right _ _ (by rw [markI_length]; omega), markI_length, Nat.sub_self, List.set_cons_zero]
  simp [markI, List.range_succ]
theorem markI_at {k : Int} {n j : Nat} (h : j < n) : (markI k n)[j]?.getD 0 = k + j := by
  simp [markI, h]
set_option maxRecDepth 100000 in
theorem markInt64S_nil (a : Option Addr) (c : Nat) (k : Int) (w : World) : Calls Try.prog 33 #[.slice a 0 c, .int .i64 k] w (RS (.int .i64 k) w) := by
  go_enter Try.func33, Try.ntmps33
  go_wp2
  refine wp_loop_rounds 1 ?_
  rw [rounds_succ]
  go_wp2
  go_ret
  exact RS_of rfl
set_option maxRecDepth 100000 in
theorem heldInt64S_nil (a : Option Addr) (c : Nat) (k : Int) (w : World) : Calls Try.prog 35 #[.slice a 0 c, .int .i64 k] w (RS (.int .i64 k) w) := by
  go_enter Try.func35, Try.ntmps35
  go_wp2
  refine wp_loop_rounds 1 ?_
  rw [rounds_succ]
  go_wp2
  go_ret
  exact RS_of rfl
set_option maxRecDepth 100000 in
theorem markInt64S_any (g cap : Nat) (zs : List Int) (k : Int) (w : World) (h : OwnAtI w g zs) (hl : zs.length ≤ 1100000) (h0 : 0 ≤ k) (h1 : k ≤ 9000000) :
    Calls Try.prog 33 #[.slice (some ⟨g, 0, none⟩) zs.length cap, .int .i64 k] w (fun e w' => e = .returned (.int .i64 (k + zs.length)) ∧ w.grownBy w' (some g) ∧ OwnAtI w' g (markI k zs.length)) := by
  have H := Lib.hid h
  clear h
  go_enter Try.func33, Try.ntmps33
  go_wp2
  go_loopw [1, 5] (fun t i wr => ∃ j : Nat, j ≤ zs.length ∧ i = .int .i64 j ∧ t = .int .i64 (k + j) ∧ w.grownBy wr (some g) ∧ OwnAtI wr g (markI k j ++ zs.drop j)) (fun _ i _ => zs.length - (intOf i).toNat)
  case atStart => exact ⟨0, Nat.zero_le _, rfl, by simp, only_refl _ _, by simpa [markI] using H.out⟩
  case round =>
    obtain ⟨j, hj, rfl, rfl, hg, ho⟩ := hrel
    by_cases hjl : j < zs.length
    · have hlj : j < (markI k j ++ zs.drop j).length := by simp [markI_length]; omega
      have c1 := ho.at_ j hlj
      rw [Nat.zero_add] at c1
      have f1 := ho.free
      have hs := Ints.set ho.at_ hlj (k + j)
      rw [markI_next hjl] at hs
      have HS := Lib.hid hs
      have hlt := ho.lt
      clear hs ho
      have g0 : (0 : Int) ≤ (j : Int) := by omega
      have g1 : (j : Int) < (zs.length : Int) := by omega
      obtain ⟨m, hm⟩ : ∃ m, m = k + (j : Int) := ⟨_, rfl⟩
      rw [← hm] at HS ⊢
      have m0 : 0 ≤ m := by omega
      have m1 : m ≤ 90000000 := by omega
      have HM := Lib.hid hm
      clear hm
      go_wp2
      go_roundw
      case rel => exact ⟨j + 1, by omega, by go_num, int_eq (by rw [HM.out]; omega), only_setCell hg rfl _, ⟨by simpa [World.setCell] using hlt, HS.out, fun o => by rw [World.frozen?_setCell]; exact f1 o⟩⟩
      case measure => simp [intOf]; omega
    · go_wp2
      go_ret
      have e : j = zs.length := by omega
      subst e
      rw [List.drop_length, List.append_nil] at ho
      exact ⟨rfl, hg, ho⟩
set_option maxRecDepth 100000 in
theorem heldInt64S_any (g cap n : Nat) (k : Int) (w : World) (h : Ints w g 0 (markI k n)) (hl : n ≤ 1100000) (h0 : 0 ≤ k) (h1 : k ≤ 9000000) :
    Calls Try.prog 35 #[.slice (some ⟨g, 0, none⟩) n cap, .int .i64 k] w (RS (.int .i64 (k + n)) w) := by
  have H := Lib.hid h
  clear h
  go_enter Try.func35, Try.ntmps35
  go_wp2
  go_loop [1, 5] (fun t i => ∃ j : Nat, j ≤ n ∧ i = .int .i64 j ∧ t = .int .i64 (k + j)) (fun _ i => n - (intOf i).toNat)
  case atStart => exact ⟨0, Nat.zero_le _, rfl, by simp⟩
  case round =>
    obtain ⟨j, hj, rfl, rfl⟩ := hrel
    by_cases hjl : j < n
    · have hc := H.out j (by rw [markI_length]; exact hjl)
      rw [markI_at hjl, Nat.zero_add] at hc
      obtain ⟨m, hm⟩ : ∃ m, m = k + (j : Int) := ⟨_, rfl⟩
      rw [← hm] at hc ⊢
      have m0 : 0 ≤ m := by omega
      have m1 : m ≤ 90000000 := by omega
      have HM := Lib.hid hm
      clear hm
      have g0 : (0 : Int) ≤ (j : Int) := by omega
      have g1 : (j : Int) < (n : Int) := by omega
      have n1 : (m != m) = false := by simp
      go_wp2
      go_round
      case rel => exact ⟨j + 1, by omega, by go_num, int_eq (by rw [HM.out]; omega)⟩
      case measure => simp [intOf]; omega
    · go_wp2
      go_ret
      have e : j = n := by omega
      subst e
      exact RS_of rfl
/-- A result that is a list of integers: empty anywhere, or memory of its own between lo and hi. -/
def ResI (w : World) (lo hi : Nat) (s : Value) (zs : List Int) : Prop := (zs = [] ∧ ∃ a c, s = .slice a 0 c) ∨ ∃ g cap, s = .slice (some ⟨g, 0, none⟩) zs.length cap ∧ lo ≤ g ∧ g < hi ∧ OwnAtI w g zs
theorem OwnJ.res {w : World} {base : Nat} {v : Value} {zs : List Int} (h : OwnJ w base v zs) (hl : zs.length ≤ 1100000) : ResI w base w.heap.size v zs := by
  have hib := h.ib hl
  obtain ⟨hl, h | ⟨g, cap, cur, rfl, hb, hcur, hn, hc, hsz, hx⟩⟩ := h
  · obtain ⟨rfl, h0⟩ := h
    exact .inl ⟨List.length_eq_zero_iff.1 h0, _, _, rfl⟩
  · have hg : g < w.heap.size := (Array.getElem?_eq_some_iff.1 hcur).1
    rcases hib.2 with ⟨a, c, e1, rfl⟩ | ⟨b, off, cap', e1, _, hI⟩
    · exact .inl ⟨rfl, _, _, rfl⟩
    · simp at e1
      obtain ⟨⟨rfl, rfl⟩, _⟩ := e1
      exact .inr ⟨g, cap, rfl, hb, hg, hg, hI, fun o => by simp [World.frozen?, hcur]⟩
theorem ResI.ib {w : World} {lo hi : Nat} {s : Value} {zs : List Int} (h : ResI w lo hi s zs) (hl : zs.length ≤ 1100000) : IB w s zs := by
  rcases h with ⟨rfl, a, c, rfl⟩ | ⟨g, cap, rfl, _, _, ho⟩
  · exact ⟨hl, .inl ⟨a, c, rfl, rfl⟩⟩
  · exact ⟨hl, .inr ⟨g, 0, cap, rfl, ho.lt, ho.at_⟩⟩
theorem ResI.kept {w w' : World} {lo hi : Nat} {s : Value} {zs : List Int} {row : Option Nat} (h : ResI w lo hi s zs) (hg : w.grownBy w' row) (hr : ∀ r, row = some r → r < lo ∨ hi ≤ r) : ResI w' lo hi s zs := by
  rcases h with h | ⟨g, cap, rfl, h1, h2, ho⟩
  · exact .inl h
  · exact .inr ⟨g, cap, rfl, h1, h2, ho.kept hg (fun e => by have := hr g e.symm; omega)⟩
theorem ResI.below {w w' : World} {lo hi : Nat} {s : Value} {zs : List Int} (h : ResI w lo hi s zs) {B : Nat} (hb : Below B w w') (hB : w.heap.size ≤ B) : ResI w' lo hi s zs :=
  h.kept (only_of_below (hb.mono hB) none) (by simp)
theorem markJ (lo hi : Nat) (s : Value) (zs : List Int) (k : Int) (w : World) (h : ResI w lo hi s zs) (hl : zs.length ≤ 1100000) (h0 : 0 ≤ k) (h1 : k ≤ 9000000) :
    Calls Try.prog 33 #[s, .int .i64 k] w (fun e w' => e = .returned (.int .i64 (k + zs.length)) ∧ (∃ row, w.grownBy w' row ∧ ∀ r, row = some r → lo ≤ r ∧ r < hi) ∧ ResI w' lo hi s (markI k zs.length)) := by
  rcases h with ⟨rfl, a, c, rfl⟩ | ⟨g, cap, rfl, h3, h4, ho⟩
  · refine (markInt64S_nil a c k w).mono ?_
    rintro e w' ⟨rfl, rfl⟩
    exact ⟨by simp, ⟨none, only_refl _ _, by simp⟩, .inl ⟨rfl, a, c, rfl⟩⟩
  · refine (markInt64S_any g cap zs k w ho hl h0 h1).mono ?_
    rintro e w' ⟨rfl, hg, ho'⟩
    exact ⟨rfl, ⟨some g, hg, fun r hr => by cases hr; exact ⟨h3, h4⟩⟩, .inr ⟨g, cap, by rw [markI_length], h3, h4, ho'⟩⟩
theorem heldJ (lo hi : Nat) (s : Value) (n : Nat) (k : Int) (w : World) (h : ResI w lo hi s (markI k n)) (hl : n ≤ 1100000) (h0 : 0 ≤ k) (h1 : k ≤ 9000000) :
    Calls Try.prog 35 #[s, .int .i64 k] w (RS (.int .i64 (k + n)) w) := by
  rcases h with ⟨hn, a, c, rfl⟩ | ⟨g, cap, rfl, h3, h4, ho⟩
  · have : n = 0 := by have := congrArg List.length hn; simpa [markI_length] using this
    subst this
    simpa using heldInt64S_nil a c k w
  · rw [markI_length]
    exact heldInt64S_any g cap n k w ho.at_ hl h0 h1
end Go.Proofs.Ytkpnlecmfmbkaaa

namespace Go.Proofs.Ytkpnlecmfmbkaaa
open Go.RowKit Go.Maps
/-- The value is a slice of just these n rows. -/
def SSB (w : World) (s : Value) (n : Nat) (F : Nat → List Int) : Prop :=
  n ≤ 1100000 ∧ ((n = 0 ∧ ∃ a c, s = .slice a 0 c) ∨ ∃ b off cap, s = .slice (some ⟨b, off, none⟩) n cap ∧ b < w.heap.size ∧ ∀ k, k < n → ∃ a c, w.cell? ⟨b, off + k, none⟩ = some (.slice a (F k).length c) ∧ IB w (.slice a (F k).length c) (F k))
theorem SSB.below {w w' : World} {s : Value} {n : Nat} {F : Nat → List Int} (h : SSB w s n F) {B : Nat} (hb : Below B w w') (hB : w.heap.size ≤ B) : SSB w' s n F := by
  obtain ⟨h1, h2⟩ := h
  refine ⟨h1, ?_⟩
  rcases h2 with h2 | ⟨b, off, cap, rfl, hl, hr⟩
  · exact .inl h2
  · refine .inr ⟨b, off, cap, rfl, by have := hb.size; omega, fun k hk => ?_⟩
    obtain ⟨a, c, hc, hi⟩ := hr k hk
    exact ⟨a, c, (hb.cell (by simp; omega)).trans hc, hi.below hb hB⟩
theorem SSB.slice {w : World} {s : Value} {n : Nat} {F : Nat → List Int} (h : SSB w s n F) : ∃ a c, s = .slice a n c := by
  rcases h.2 with ⟨rfl, a, c, rfl⟩ | ⟨b, off, cap, rfl, _⟩ <;> exact ⟨_, _, rfl⟩
set_option maxRecDepth 100000 in
theorem eqInt64SS_same (s t : Value) (n : Nat) (F : Nat → List Int) (w : World) (h : SSB w s n F) (k : SSB w t n F) : Calls Try.prog 28 #[s, t] w (RV (.bool true) w) := by
  have hn := h.1
  by_cases h0 : n = 0
  · obtain ⟨a, c, rfl⟩ := h.slice
    obtain ⟨a', c', rfl⟩ := k.slice
    subst h0
    clear h k hn
    go_enter Try.func28, Try.ntmps28
    go_wp2
    refine wp_loop_rounds 1 ?_
    rw [rounds_succ]
    go_wp2
    go_ret
    exact RV_of rfl (Below.refl _ _)
  · rcases h.2 with ⟨e, _⟩ | ⟨b, off, cap, rfl, hb, hB⟩
    · exact absurd e h0
    · rcases k.2 with ⟨e, _⟩ | ⟨b', off', cap', rfl, hb', hB'⟩
      · exact absurd e h0
      · have HB := Lib.hid hB
        have HB' := Lib.hid hB'
        clear hB hB' h k h0
        have hne : (((n : Nat) : Int) != (n : Nat)) = false := by simp
        go_enter Try.func28, Try.ntmps28
        go_wp2
        go_loopw [5] (fun i wr => ∃ k : Nat, k ≤ n ∧ i = .int .i64 k ∧ Below w.heap.size w wr) (fun i _ => n - (intOf i).toNat)
        case atStart => exact ⟨0, Nat.zero_le _, rfl, Below.refl _ _⟩
        case round =>
          obtain ⟨k, hk, rfl, hBw⟩ := hrel
          by_cases hkl : k < n
          · obtain ⟨a1, c1, q1, i1⟩ := HB.out k hkl
            obtain ⟨a2, c2, q2, i2⟩ := HB'.out k hkl
            have q1 := (hBw.cell (p := ⟨b, off + k, none⟩) hb).trans q1
            have q2 := (hBw.cell (p := ⟨b', off' + k, none⟩) hb').trans q2
            have I1 := Lib.hid (i1.below hBw (Nat.le_refl _))
            have I2 := Lib.hid (i2.below hBw (Nat.le_refl _))
            clear i1 i2
            have g0 : (0 : Int) ≤ (k : Int) := by omega
            have g1 : (k : Int) < (n : Int) := by omega
            go_wp2_with fail
            go_region_with (go_at_call 29; refine (eqInt64S_same _ _ (F k) _ (I1.out.below ((Below.refl _ _).drew) (Nat.le_refl _)) (I2.out.below ((Below.refl _ _).drew) (Nat.le_refl _))).mono ?_; rintro e w1 ⟨rfl, hb1⟩)
            all_goals
              go_wp2_with fail
              go_roundw
              case rel => exact ⟨k + 1, by omega, by go_num, (hBw.drew).trans (hb1.mono (by have := hBw.size; simp; omega))⟩
              case measure => simp [intOf]; omega
          · go_wp2
            go_ret
            exact RV_of rfl hBw
/-- Rows of its own: the head at block G, the k-th row at block gs k. -/
structure SSR (w : World) (lo G : Nat) (gs caps : Nat → Nat) (n : Nat) (F : Nat → List Int) : Prop where
  cell : ∀ k, k < n → w.cell? ⟨G, k, none⟩ = some (.slice (some ⟨gs k, 0, none⟩) (F k).length (caps k))
  row : ∀ k, k < n → OwnAtI w (gs k) (F k)
  ne : ∀ k, k < n → gs k ≠ G
  inc : ∀ j k, j < k → k < n → gs j ≠ gs k
  low : ∀ k, k < n → lo ≤ gs k
  lt : G < w.heap.size
theorem SSR.kept {w w' : World} {lo G : Nat} {gs caps : Nat → Nat} {n : Nat} {F : Nat → List Int} (h : SSR w lo G gs caps n F) {row : Option Nat} (hg : w.grownBy w' row) (hG : some G ≠ row) (hr : ∀ k, k < n → some (gs k) ≠ row) : SSR w' lo G gs caps n F :=
  ⟨fun k hk => hg.cell (h.cell k hk) (by simpa using hG), fun k hk => (h.row k hk).kept hg (hr k hk), h.ne, h.inc, h.low, Nat.lt_of_lt_of_le h.lt hg.size⟩
theorem SSR.below {w w' : World} {lo G : Nat} {gs caps : Nat → Nat} {n : Nat} {F : Nat → List Int} (h : SSR w lo G gs caps n F) {B : Nat} (hb : Below B w w') (hB : w.heap.size ≤ B) : SSR w' lo G gs caps n F :=
  h.kept (only_of_below (hb.mono hB) none) (by simp) (by simp)
theorem SSR.sb {w : World} {lo G cap : Nat} {gs caps : Nat → Nat} {n : Nat} {F : Nat → List Int} (h : SSR w lo G gs caps n F) (hn : n ≤ 1100000) (hF : ∀ k, k < n → (F k).length ≤ 1100000) : SSB w (.slice (some ⟨G, 0, none⟩) n cap) n F :=
  ⟨hn, .inr ⟨G, 0, cap, rfl, h.lt, fun k hk => ⟨_, _, by rw [Nat.zero_add]; exact h.cell k hk, ⟨hF k hk, .inr ⟨gs k, 0, caps k, rfl, (h.row k hk).lt, (h.row k hk).at_⟩⟩⟩⟩⟩
/-- How many integers the first k rows hold. -/
def tot (F : Nat → List Int) : Nat → Nat
  | 0 => 0
  | k + 1 => tot F k + (F k).length
theorem tot_le (F : Nat → List Int) {j n : Nat} (h : j ≤ n) : tot F j ≤ tot F n := by
  induction h with
  | refl => exact Nat.le_refl _
  | step _ ih => exact Nat.le_trans ih (by simp [tot])
/-- The rows after marking. -/
def markSS (k0 : Int) (F : Nat → List Int) (j : Nat) : List Int := markI (k0 + tot F j) (F j).length
theorem SSR.mark1 {w w' : World} {lo G : Nat} {gs caps : Nat → Nat} {n : Nat} {F : Nat → List Int} (h : SSR w lo G gs caps n F) {j : Nat} (hj : j < n) (L : List Int) (hL : L.length = (F j).length) (hg : w.grownBy w' (some (gs j))) (ho : OwnAtI w' (gs j) L) :
    SSR w' lo G gs caps n (fun k => if k = j then L else F k) := by
  refine ⟨fun k hk => ?_, fun k hk => ?_, h.ne, h.inc, h.low, Nat.lt_of_lt_of_le h.lt hg.size⟩
  · have hc := hg.cell (h.cell k hk) (by simpa using Ne.symm (h.ne j hj))
    split
    · subst k
      rw [hL]; exact hc
    · exact hc
  · split
    · subst k; exact ho
    · refine (h.row k hk).kept hg (fun e => ?_)
      have e : gs k = gs j := by simpa using e
      rcases Nat.lt_trichotomy k j with hlt | rfl | hlt
      · have := h.inc k j hlt hj; omega
      · contradiction
      · have := h.inc j k hlt hk; omega
def partSS (k0 : Int) (F : Nat → List Int) (j : Nat) : Nat → List Int := fun k => if k < j then markSS k0 F k else F k
theorem partSS_len (k0 : Int) (F : Nat → List Int) (j k : Nat) : (partSS k0 F j k).length = (F k).length := by
  unfold partSS markSS
  split
  · rw [markI_length]
  · rfl
theorem partSS_succ (k0 : Int) (F : Nat → List Int) (j : Nat) : (fun k => if k = j then markSS k0 F j else partSS k0 F j k) = partSS k0 F (j + 1) := by
  funext k
  unfold partSS
  by_cases h : k = j
  · subst h; simp
  · rw [if_neg h]
    by_cases h2 : k < j
    · rw [if_pos h2, if_pos (by omega)]
    · rw [if_neg h2, if_neg (by omega)]
theorem SSR.congr {w : World} {lo G : Nat} {gs caps : Nat → Nat} {n : Nat} {F F' : Nat → List Int} (h : SSR w lo G gs caps n F) (e : ∀ k, k < n → F k = F' k) : SSR w lo G gs caps n F' :=
  ⟨fun k hk => by rw [← e k hk]; exact h.cell k hk, fun k hk => by rw [← e k hk]; exact h.row k hk, h.ne, h.inc, h.low, h.lt⟩
set_option maxRecDepth 100000 in
theorem markInt64SS_any (lo G cap : Nat) (gs caps : Nat → Nat) (n : Nat) (F : Nat → List Int) (k0 : Int) (w : World) (h : SSR w lo G gs caps n F) (hl : n ≤ 1100000) (hlo : lo ≤ w.heap.size) (hT : tot F n ≤ 1100000) (h0 : 0 ≤ k0) (h1 : k0 ≤ 5000000) :
    Calls Try.prog 32 #[.slice (some ⟨G, 0, none⟩) n cap, .int .i64 k0] w (fun e w' => e = .returned (.int .i64 (k0 + tot F n)) ∧ Below lo w w' ∧ SSR w' lo G gs caps n (markSS k0 F)) := by
  have H := Lib.hid h
  clear h
  go_enter Try.func32, Try.ntmps32
  go_wp2
  go_loopw [1, 5] (fun t i wr => ∃ j : Nat, j ≤ n ∧ i = .int .i64 j ∧ t = .int .i64 (k0 + tot F j) ∧ Below lo w wr ∧ SSR wr lo G gs caps n (partSS k0 F j)) (fun _ i _ => n - (intOf i).toNat)
  case atStart => exact ⟨0, Nat.zero_le _, rfl, by simp [tot], Below.refl _ _, H.out.congr (fun k _ => by simp [partSS])⟩
  case round =>
    obtain ⟨j, hj, rfl, rfl, hB, hS⟩ := hrel
    have hSz := hB.size
    by_cases hjl : j < n
    · have c1 := hS.cell j hjl
      have hrow := hS.row j hjl
      have hlow := hS.low j hjl
      have hlen := partSS_len k0 F j j
      have hFj : partSS k0 F j j = F j := by simp [partSS]
      rw [hFj] at c1 hrow
      have htj : tot F (j + 1) ≤ tot F n := tot_le F hjl
      have htj' : tot F (j + 1) = tot F j + (F j).length := rfl
      have HS := Lib.hid hS
      have HM := Lib.hid (markInt64S_any (gs j) (caps j) (F j) (k0 + tot F j) wr hrow (by omega) (by omega) (by omega))
      clear hlen hFj hrow hS
      have g0 : (0 : Int) ≤ (j : Int) := by omega
      have g1 : (j : Int) < (n : Int) := by omega
      go_wp2_with (go_at_call 33; refine HM.out.mono ?_; rintro e w1 ⟨rfl, hg1, ho1⟩)
      go_roundw
      case rel => exact ⟨j + 1, by omega, by go_num, int_eq (by rw [htj']; omega), hB.grown hg1 (by omega) (fun r e => by simp at e; omega), by
        have := HS.out.mark1 hjl (markSS k0 F j) (by unfold markSS; rw [markI_length, partSS_len]) hg1 ho1
        rw [partSS_succ] at this
        exact this⟩
      case measure => simp [intOf]; omega
    · go_wp2
      go_ret
      have e : j = n := by omega
      subst e
      exact ⟨rfl, hB, hS.congr (fun k hk => by simp [partSS, hk])⟩
set_option maxRecDepth 100000 in
theorem heldInt64SS_any (lo G cap : Nat) (gs caps : Nat → Nat) (n : Nat) (F : Nat → List Int) (k0 : Int) (w : World) (h : SSR w lo G gs caps n (markSS k0 F)) (hl : n ≤ 1100000) (hT : tot F n ≤ 1100000) (h0 : 0 ≤ k0) (h1 : k0 ≤ 5000000) :
    Calls Try.prog 34 #[.slice (some ⟨G, 0, none⟩) n cap, .int .i64 k0] w (RS (.int .i64 (k0 + tot F n)) w) := by
  have H := Lib.hid h
  clear h
  go_enter Try.func34, Try.ntmps34
  go_wp2
  go_loop [1, 5] (fun t i => ∃ j : Nat, j ≤ n ∧ i = .int .i64 j ∧ t = .int .i64 (k0 + tot F j)) (fun _ i => n - (intOf i).toNat)
  case atStart => exact ⟨0, Nat.zero_le _, rfl, by simp [tot]⟩
  case round =>
    obtain ⟨j, hj, rfl, rfl⟩ := hrel
    by_cases hjl : j < n
    · have c1 := H.out.cell j hjl
      have hrow := (H.out.row j hjl).at_
      have htj : tot F (j + 1) ≤ tot F n := tot_le F hjl
      have htj' : tot F (j + 1) = tot F j + (F j).length := rfl
      have hmm : (markSS k0 F j).length = (F j).length := by unfold markSS; rw [markI_length]
      rw [hmm] at c1
      have HM := Lib.hid (heldInt64S_any (gs j) (caps j) (F j).length (k0 + tot F j) w hrow (by omega) (by omega) (by omega))
      clear hmm hrow
      obtain ⟨m, hm⟩ : ∃ m, m = k0 + (tot F j : Int) + ((F j).length : Int) := ⟨_, rfl⟩
      rw [← hm] at HM
      have hm0 : 0 ≤ m := by omega
      have HME := Lib.hid hm
      clear hm
      have g0 : (0 : Int) ≤ (j : Int) := by omega
      have g1 : (j : Int) < (n : Int) := by omega
      go_wp2_with (go_at_call 35; refine HM.out.mono ?_; rintro e w1 ⟨rfl, rfl⟩)
      go_round
      case rel => exact ⟨j + 1, by omega, by go_num, int_eq (by rw [htj', HME.out]; omega)⟩
      case measure => simp [intOf]; omega
    · go_wp2
      go_ret
      have e : j = n := by omega
      subst e
      exact RS_of rfl
end Go.Proofs.Ytkpnlecmfmbkaaa


/- The program's search, counting. CountColourings of the model, whole. FirstColouring and FirstStrict of the program, whole. CountColourings of the program. The law FnExactCountColourings returns true. How the laws' arguments are read. The dump's head word by word, cheaply: what every row asks of it. -/
import Derived.Test.YtkpnlecmfmbkaaaJ11
import Derived.Deep.RegionWith
import Derived.Test.YtkpnlecmfmbkaaaRows
import Derived.ProofKit
import Derived.OpenShut
import Derived.Deep.Slices
import Derived.Lib.SmallJoins
import Derived.ChangeOld
namespace Go.Proofs.Ytkpnlecmfmbkaaa
open Go.RowKit Go.Maps Go.Shelf
/-- Old memory is kept, but for one block and a counter's. -/
structure G2 (w w' : World) (row : Option Nat) (Bf : Nat) : Prop where
  os : w'.os = w.os
  tape : w'.tape = w.tape
  output : w'.output = w.output
  size : w.heap.size ≤ w'.heap.size
  block : ∀ i, i < w.heap.size → some i ≠ row → i ≠ Bf → w'.heap[i]? = w.heap[i]?
theorem G2.of {w w' : World} {row : Option Nat} (Bf : Nat) (h : w.grownBy w' row) : G2 w w' row Bf := ⟨h.os, h.tape, h.output, h.size, fun i hi hn _ => h.block i hi hn⟩
theorem G2.ofB {w w' : World} {Bf : Nat} (row : Option Nat) (h : w.grownBy w' (some Bf)) : G2 w w' row Bf := ⟨h.os, h.tape, h.output, h.size, fun i hi _ hn => h.block i hi (fun e => hn (by cases e; rfl))⟩
theorem G2.refl (w : World) (row : Option Nat) (Bf : Nat) : G2 w w row Bf := ⟨rfl, rfl, rfl, Nat.le_refl _, fun _ _ _ _ => rfl⟩
theorem G2.tr {a b c : World} {row row2 : Option Nat} {Bf : Nat} (h : G2 a b row Bf) (k : G2 b c row2 Bf) (hr : row2 = row ∨ ∀ r, row2 = some r → a.heap.size ≤ r) : G2 a c row Bf :=
  ⟨k.os.trans h.os, k.tape.trans h.tape, k.output.trans h.output, Nat.le_trans h.size k.size, fun i hi hn hB => (k.block i (Nat.lt_of_lt_of_le hi h.size) (fun e => by
    rcases hr with hr | hr
    · exact hn (e.trans hr)
    · have := hr i e.symm; omega) hB).trans (h.block i hi hn hB)⟩
theorem G2.cell {w w' : World} {row : Option Nat} {Bf : Nat} (h : G2 w w' row Bf) {p : Addr} {u : Value} (hc : w.cell? p = some u) (hn : some p.block ≠ row) (hB : p.block ≠ Bf) (hlt : p.block < w.heap.size) : w'.cell? p = some u := by
  rw [← hc]
  exact World.cell?_of_block (h.block _ hlt hn hB)
structure G3 (w0 w : World) (Bf : Nat) : Prop where
  size : w0.heap.size ≤ w.heap.size
  block : ∀ i, i < w0.heap.size → i ≠ Bf → w.heap[i]? = w0.heap[i]?
theorem G3.refl (w : World) (Bf : Nat) : G3 w w Bf := ⟨Nat.le_refl _, fun _ _ _ => rfl⟩
theorem G3.tr {w0 w w' : World} {row : Option Nat} {Bf : Nat} (h : G3 w0 w Bf) (k : G2 w w' row Bf) (hr : ∀ r, row = some r → w0.heap.size ≤ r) : G3 w0 w' Bf :=
  ⟨Nat.le_trans h.size k.size, fun i hi hB => (k.block i (Nat.lt_of_lt_of_le hi h.size) (fun e => by have := hr i e.symm; omega) hB).trans (h.block i hi hB)⟩
theorem G3.cell {w0 w : World} {Bf : Nat} (h : G3 w0 w Bf) {p : Addr} {u : Value} (hc : w0.cell? p = some u) (hB : p.block ≠ Bf) (hlt : p.block < w0.heap.size) : w.cell? p = some u := by
  rw [← hc]
  exact World.cell?_of_block (h.block _ hlt hB)
theorem TabB.g3 {w0 w : World} {G n Bf : Nat} {F : Nat → List Blk} {u : Nat → Value} (h : TabB w0 G n F u) (hg : G3 w0 w Bf) (hB : Bf < G) : TabB w G n F u := by
  refine ⟨fun i hi => hg.cell (h.cell i hi) (by show G ≠ Bf; omega) h.lt, fun i hi => (World.frozen?_of_block (w := w0) (w' := w) (a := ⟨G, i, none⟩) (hg.block G h.lt (by omega))).trans (h.free i hi), fun i hi => ?_, h.apart, Nat.lt_of_lt_of_le h.lt hg.size⟩
  obtain ⟨hl, h1 | ⟨g, cap, cur, e, hb', hcur, hrest⟩⟩ := h.own i hi
  · exact ⟨hl, .inl h1⟩
  · exact ⟨hl, .inr ⟨g, cap, cur, e, hb', (hg.block g (Array.getElem?_eq_some_iff.1 hcur).1 (by omega)).trans hcur, hrest⟩⟩
theorem Back.own2 {w w' w3 : World} {base g cap Bf : Nat} {v : Value} {zs : List Int} {y : Int} (h : Back w w' base v zs g cap) (hg : G2 w' w3 (some g) Bf) (hB : Bf < base) (ho : OwnJ w3 base (.slice (some ⟨g, 0, none⟩) (zs.length + 1) cap) (zs ++ [y])) : OwnJ w3 base v zs := by
  rcases h with rfl | ⟨hne, _, h⟩
  · exact ho.pre
  · obtain ⟨hl, h | ⟨g', cap', cur, rfl, hb, hcur, hrest⟩⟩ := h
    · exact ⟨hl, .inl h⟩
    · exact ⟨hl, .inr ⟨g', cap', cur, rfl, hb, (hg.block g' (Array.getElem?_eq_some_iff.1 hcur).1 (fun e => hne (by rw [Value.ownBlock]; exact e)) (by omega)).trans hcur, hrest⟩⟩
theorem Back.grown2 {w w' w3 : World} {base g cap Bf : Nat} {v : Value} {zs : List Int} (h : Back w w' base v zs g cap) (hg : G2 w w' v.ownBlock Bf) (hg3 : G2 w' w3 (some g) Bf) : G2 w w3 v.ownBlock Bf := by
  refine ⟨hg3.os.trans hg.os, hg3.tape.trans hg.tape, hg3.output.trans hg.output, Nat.le_trans hg.size hg3.size, fun k hk hne hB => ?_⟩
  refine (hg3.block k (Nat.lt_of_lt_of_le hk hg.size) (fun e => ?_) hB).trans (hg.block k hk hne hB)
  cases e
  rcases h with rfl | ⟨_, h2, _⟩
  · exact hne rfl
  · omega
/-- The first of those used. -/
def Fst (L : List Nat) (used : Nat) : Prop := (∀ z ∈ L, z < used) ∧ (used = 0 ∨ (used - 1) ∈ L)
theorem Fst.next {L : List Nat} {used j : Nat} (h : Fst L used) (hj : j ≤ used) : Fst (L ++ [j]) (max used (j + 1)) := by
  obtain ⟨h1, h2⟩ := h
  refine ⟨fun z hz => ?_, .inr ?_⟩
  · rcases List.mem_append.1 hz with hz | hz
    · have := h1 z hz; omega
    · rw [List.mem_singleton] at hz; omega
  · rw [List.mem_append, List.mem_singleton]
    by_cases e : j = used
    · exact .inr (by omega)
    · rcases h2 with h2 | h2
      · omega
      · exact .inl (by rw [show max used (j + 1) = used by omega]; exact h2)
theorem Fst.max {L : List Nat} {used : Nat} (h : Fst L used) (h0 : 0 < L.length) : 1 ≤ used ∧ MaxOf (natL L) ((used : Int) - 1) := by
  obtain ⟨h1, h2⟩ := h
  have hu : 1 ≤ used := by
    have := h1 L[0] (List.getElem_mem h0)
    omega
  refine ⟨hu, ?_, fun z hz => ?_⟩
  · rcases h2 with h2 | h2
    · omega
    · exact List.mem_map.2 ⟨used - 1, h2, by omega⟩
  · obtain ⟨c, hc, rfl⟩ := List.mem_map.1 hz
    have := h1 c hc
    omega
def CntQ (c : Nat) (v : Value) (Z : List Int) (Bf n0 x : Nat) (w : World) (e : Ending) (w' : World) : Prop :=
  e = .returned (.bool true) ∧ G2 w w' v.ownBlock Bf ∧ OwnJ w' n0 v Z ∧ w'.cell? ⟨Bf, 0, none⟩ = some (.int .i64 ((x + c : Nat) : Int)) ∧ w'.frozen? ⟨Bf, 0, none⟩ = false
set_option maxRecDepth 100000 in
set_option maxHeartbeats 16000000 in
theorem eachC_any (k n G Bk Bf : Nat) (uu : Nat → Value) (bs : List Blk) (w0 : World) (hT : TabB w0 G n (endB bs) uu) (hlb : bs.length ≤ 1100000) (hok : ∀ x ∈ bs, okB x) (hn3 : 3 ≤ n) (hn15 : n ≤ 15) (hk : k ≤ 3)
    (hck : w0.cell? ⟨Bk, 0, none⟩ = some (.int .i64 (k : Int))) (hBk : Bk < Bf) (hBf : Bf < G) :
    ∀ (d : Nat) (L : List Nat) (Z : List Int) (_ : Z = natL L) (used : Nat) (v : Value) (w : World) (x : Nat) (_ : G3 w0 w Bf) (_ : OwnJ w w0.heap.size v Z) (_ : Z.length + d = n) (_ : used ≤ k) (_ : Fst L used) (_ : w.cell? ⟨Bf, 0, none⟩ = some (.int .i64 (x : Int))) (_ : w.frozen? ⟨Bf, 0, none⟩ = false) (_ : x + cntC bs k d Z used ≤ 1000000),
    Calls Try.prog 138 #[srchV false k 1 n G, v, .int .i64 (used : Int), .func (.func 139) #[] #[.pointer (some ⟨Bk, 0, none⟩), .pointer (some ⟨Bf, 0, none⟩)]] w (CntQ (cntC bs k d Z used) v Z Bf w0.heap.size x w) := by
  obtain ⟨T0, hT0⟩ := ruleV_form false
  have hGl := hT.lt
  intro d
  induction d with
  | zero =>
    intro L Z hZ used v w x hB hO hL hu hF hc hf hx
    obtain ⟨g0, cap0, rfl⟩ := hO.some_ (by omega)
    have hLn : Z.length = n := by omega
    have e1 : (n : Int) - (Z.length : Int) = 0 := by omega
    have hb0 : Below w.heap.size w (w.alloc (.cells #[.iface T0 (.agg #[]), .int .i64 (k : Int), .int .i64 1, .slice (some ⟨G, 0, none⟩) n n] 122)) := (Below.refl _ _).alloc (Nat.le_refl _) _
    have HO := Lib.hid (hO.below hb0 (Nat.le_refl _))
    have hll : Z.length ≤ 15 := by omega
    have hzw := hB.size
    have hLl : 0 < L.length := by have : Z.length = L.length := by rw [hZ]; simp [natL]
                                  omega
    obtain ⟨hu1, hM⟩ := hF.max hLl
    rw [← hZ] at hM
    have e3 : decide ((used : Int) < 1) = false := by simp; omega
    have hck1 := (hb0.cell (p := ⟨Bk, 0, none⟩) (by show Bk < _; omega)).trans (hB.cell hck (by show Bk ≠ Bf; omega) (by show Bk < _; omega))
    have hc1 := (hb0.cell (p := ⟨Bf, 0, none⟩) (by show Bf < _; omega)).trans hc
    have hf1 := (hb0.frozen (p := ⟨Bf, 0, none⟩) (by show Bf < _; omega)).trans hf
    have hcn : cntC bs k 0 Z used = ffN k used := rfl
    rw [hcn] at hx ⊢
    have HVI := Lib.hid (visitC_any (.slice (some ⟨g0, 0, none⟩) Z.length cap0) Z k used x Bk Bf _ (HO.out.ia (by omega)) (by omega) hM hk hu (by omega) hck1 hc1 hf1)
    have HC1 := Lib.hid hc1
    have HF1 := Lib.hid hf1
    unfold srchV
    rw [hT0]
    clear hT0 hT hO hok hLn hc1 hf1 hck1 hc hf hck hM hF hZ
    go_enter Try.func138, Try.ntmps138
    go_wp2_with fail
    refine HVI.out.mono ?_
    rintro e w2 ⟨rfl, rfl⟩
    have hg := setG_gb (w.alloc (.cells #[.iface T0 (.agg #[]), .int .i64 (k : Int), .int .i64 1, .slice (some ⟨G, 0, none⟩) n n] 122)) Bf 0 (.int .i64 ((x + ffN k used : Nat) : Int))
    have HQ := Lib.hid (show CntQ (ffN k used) (.slice (some ⟨g0, 0, none⟩) Z.length cap0) Z Bf w0.heap.size x w (.returned (.bool true)) _ from ⟨rfl, (G2.of Bf (only_of_below hb0 _)).tr (G2.ofB _ hg) (.inl rfl), HO.out.kept hg (fun r hr => by cases hr; omega), World.cell?_setCell_same _ _ _ HC1.out, by simpa using HF1.out⟩)
    clear hg
    go_wp2
    go_ret
    exact HQ.out
  | succ d ih =>
    intro L Z hZ used v w x hB hO hL hu hF hc hf hx
    obtain ⟨a5, c5, rfl⟩ := hO.formS
    have e1 : (n : Int) - (Z.length : Int) = ((d + 1 : Nat) : Int) := by omega
    have e2 : (((d + 1 : Nat) : Int) == 0) = false := by simp; omega
    have e2' : ((d : Int) + 1 == 0) = false := by simp; omega
    have hb0 : Below w.heap.size w (w.alloc (.cells #[.iface T0 (.agg #[]), .int .i64 (k : Int), .int .i64 1, .slice (some ⟨G, 0, none⟩) n n] 122)) := (Below.refl _ _).alloc (Nat.le_refl _) _
    have hll : Z.length ≤ 15 := by omega
    have hd15 : d ≤ 15 := by omega
    have hzw := hB.size
    have e3 : decide ((used : Int) + ((d + 1 : Nat) : Int) < 1) = false := by simp; omega
    have e3' : decide ((used : Int) + ((d : Int) + 1) < 1) = false := by simp; omega
    have HO0 := Lib.hid hO
    have HO2' := Lib.hid (hO.below hb0 (Nat.le_refl _))
    have HB0' := Lib.hid hb0
    have IH := Lib.hid ih
    have HZ := Lib.hid hZ
    have HFS := Lib.hid hF
    have HFT := Lib.hid fun t zs W (hb : G3 w0 W Bf) (ht : IB W t zs) (h0 : 0 < zs.length) (hn : zs.length ≤ n) => fits_any false k 1 n G uu bs t zs W (hT.g3 hb hBf) hlb hok ht h0 hn hn15
    obtain ⟨f, hf0⟩ : ∃ f, f = fun c => if goodE false bs (Z ++ [((c : Nat) : Int)]) then cntC bs k d (Z ++ [(c : Int)]) (max used (c + 1)) else 0 := ⟨_, rfl⟩
    have HF := Lib.hid hf0
    obtain ⟨M, hM⟩ : ∃ M, M = min (used + 1) k := ⟨_, rfl⟩
    have hV : cntC bs k (d + 1) Z used = sumF f 0 M := by rw [hf0, hM]; rfl
    rw [hV] at hx ⊢
    have HX := Lib.hid hx
    unfold srchV at *
    rw [hT0] at *
    obtain ⟨w2, hw2⟩ : ∃ w2, w2 = w.alloc (.cells #[.iface T0 (.agg #[]), .int .i64 (k : Int), .int .i64 1, .slice (some ⟨G, 0, none⟩) n n] 122) := ⟨_, rfl⟩
    have hz2 : w2.heap.size = w.heap.size + 1 := by rw [hw2]; simp
    have s0 : w2.cell? ⟨w.heap.size, 0, none⟩ = some (.iface T0 (.agg #[])) := by rw [hw2]; simp
    have s1 : w2.cell? ⟨w.heap.size, 1, none⟩ = some (.int .i64 (k : Int)) := by rw [hw2]; simp
    have s2 : w2.cell? ⟨w.heap.size, 2, none⟩ = some (.int .i64 1) := by rw [hw2]; simp
    have s3 : w2.cell? ⟨w.heap.size, 3, none⟩ = some (.slice (some ⟨G, 0, none⟩) n n) := by rw [hw2]; simp
    have HB0 := Lib.hid (show Below w.heap.size w w2 by rw [hw2]; exact HB0'.out)
    have HO2 := Lib.hid (show OwnJ w2 w0.heap.size (.slice a5 Z.length c5) Z by rw [hw2]; exact HO2'.out)
    have HB2 := Lib.hid (show G3 w0 w2 Bf from hB.tr (G2.of Bf (only_of_below HB0.out none)) (fun r e => by cases e))
    have HC2 := Lib.hid ((HB0.out.cell (p := ⟨Bf, 0, none⟩) (by show Bf < _; omega)).trans hc)
    have HF2 := Lib.hid ((HB0.out.frozen (p := ⟨Bf, 0, none⟩) (by show Bf < _; omega)).trans hf)
    have hrow : ∀ r, (Value.slice a5 Z.length c5).ownBlock = some r → w0.heap.size ≤ r := fun r e => (HO2.out.in_ r e).1
    have HROW := Lib.hid hrow
    have hBfw : Bf ≠ w.heap.size := by omega
    clear hO hT hok ih hf0 hV hb0 HO2' HB0' hB hF hZ hc hf hx hrow hck
    rcases Nat.lt_or_ge k (used + 1) with hku | hku
    · have hMk : M = k := by omega
      have hMle : M ≤ k := by omega
      have hMge : k ≤ M := by omega
      clear hM hMk
      go_enter Try.func138, Try.ntmps138
      go_wp2_with fail
      all_goals try (exfalso; omega)
      rw [← hw2]
      go_loopw [34] (fun i wr => ∃ j S : Nat, j ≤ M ∧ i = .int .i64 j ∧ Hid (G2 w2 wr (Value.slice a5 Z.length c5).ownBlock Bf) ∧ Hid (OwnJ wr w0.heap.size (.slice a5 Z.length c5) Z) ∧ Hid (wr.cell? ⟨Bf, 0, none⟩ = some (.int .i64 ((x + S : Nat) : Int))) ∧ Hid (wr.frozen? ⟨Bf, 0, none⟩ = false) ∧ Hid (sumF f 0 M = S + sumF f j (M - j))) (fun i _ => M - (intOf i).toNat)
      case atStart => exact ⟨0, 0, Nat.zero_le _, rfl, Lib.hid (G2.refl _ _ _), HO2, HC2, HF2, Lib.hid (by rw [Nat.zero_add, Nat.sub_zero])⟩
      case round =>
        obtain ⟨j, S, hj, rfl, HGR, HOW, HCR, HFR, HR⟩ := hrel
        have hz := HGR.out.size
        have HBR := Lib.hid (HB2.out.tr HGR.out HROW.out)
        have hzr := HBR.out.size
        by_cases hjl : j < M
        · have t1 : decide ((j : Int) < (k : Int)) = true := by simp; omega
          have HFJ := Lib.hid (show f j = if goodE false bs (Z ++ [(j : Int)]) then cntC bs k d (Z ++ [(j : Int)]) (max used (j + 1)) else 0 by rw [HF.out])
          have HST := Lib.hid (sumF_step f hjl)
          go_upto_region 10 with (at_builtin; refine wpList_append_one rfl _ _ rfl w0.heap.size (.slice a5 Z.length c5) Z rfl (by exact HOW.out.below ((Below.refl _ _).alloc (Nat.le_refl _) _) (Nat.le_refl _)) _ _ (j : Int) rfl (by simp [go_sem]) (by omega) (by simp; have := HBR.out.size; omega) ?_; intro g cap w4 hO4 hg4 hbk)
          have HBK := Lib.hid hbk
          have HG4 := Lib.hid hg4
          have hz4 := hg4.size
          simp at hz4
          have hgw4 := HGR.out.tr ((G2.of Bf (World.grownBy_alloc _ _ (Value.slice a5 Z.length c5).ownBlock)).tr (G2.of Bf hg4) (.inl rfl)) (.inl rfl)
          have HB4 := Lib.hid (HB2.out.tr hgw4 HROW.out)
          have hne : some w.heap.size ≠ (Value.slice a5 Z.length c5).ownBlock := fun e => by have := (HO0.out.in_ _ e.symm).2; omega
          have hneB : some Bf ≠ (Value.slice a5 Z.length c5).ownBlock := fun e => by have := HROW.out _ e.symm; omega
          have q0 := hgw4.cell s0 hne (Ne.symm hBfw) (by show w.heap.size < _; omega)
          have q1 := hgw4.cell s1 hne (Ne.symm hBfw) (by show w.heap.size < _; omega)
          have q2 := hgw4.cell s2 hne (Ne.symm hBfw) (by show w.heap.size < _; omega)
          have q3 := hgw4.cell s3 hne (Ne.symm hBfw) (by show w.heap.size < _; omega)
          have HC4 := Lib.hid (hg4.cell ((((Below.refl _ _).alloc (Nat.le_refl _) _).cell (p := ⟨Bf, 0, none⟩) (by show Bf < _; omega)).trans HCR.out) hneB)
          have HF4 := Lib.hid ((World.frozen?_of_block (a := ⟨Bf, 0, none⟩) (hg4.block Bf (by simp; omega) hneB)).trans ((((Below.refl _ _).alloc (Nat.le_refl _) _).frozen (p := ⟨Bf, 0, none⟩) (by show Bf < _; omega)).trans HFR.out))
          have HO4 : Hid (OwnJ w4 w0.heap.size (.slice (some ⟨g, 0, none⟩) (Z ++ [(j : Int)]).length cap) (Z ++ [(j : Int)])) := Lib.hid (by rw [List.length_append, List.length_singleton]; exact hO4)
          have HFI := Lib.hid (HFT.out _ (Z ++ [(j : Int)]) w4 HB4.out (HO4.out.ib (by rw [List.length_append, List.length_singleton]; omega)) (by simp) (by rw [List.length_append, List.length_singleton]; omega))
          have hln : (Z ++ [(j : Int)]).length = Z.length + 1 := by simp
          have hL15 : Z.length + 1 ≤ 15 := by omega
          have hgl : ∀ r, some g = some r → w0.heap.size ≤ r := fun r e => by cases e; exact (HO4.out.in_ g rfl).1
          have HGL := Lib.hid hgl
          rw [hln] at HFI HO4
          clear hO4 hg4 hbk hgw4 hln hne hneB hgl
          cases hge : goodE false bs (Z ++ [(j : Int)]) with
          | false =>
            rw [hge] at HFI HFJ
            have HN := Lib.hid (show sumF f 0 M = S + sumF f (j + 1) (M - (j + 1)) by rw [HR.out, HST.out, HFJ.out]; simp)
            clear hge HFJ
            go_wp2_with fail
            refine HFI.out.mono ?_
            rintro e w5 ⟨rfl, hb5⟩
            have hg45 : G2 w4 w5 (some g) Bf := G2.of Bf (only_of_below hb5 _)
            have HO5 := Lib.hid (HBK.out.own2 hg45 (by omega) (HO4.out.below hb5 (Nat.le_refl _)))
            have HW5 := Lib.hid (HGR.out.tr ((G2.of Bf (World.grownBy_alloc _ _ (Value.slice a5 Z.length c5).ownBlock)).tr (HBK.out.grown2 (G2.of Bf HG4.out) hg45) (.inl rfl)) (.inl rfl))
            have HC5 := Lib.hid ((hb5.cell (p := ⟨Bf, 0, none⟩) (by show Bf < _; omega)).trans HC4.out)
            have HF5 := Lib.hid ((hb5.frozen (p := ⟨Bf, 0, none⟩) (by show Bf < _; omega)).trans HF4.out)
            clear hb5 hg45
            go_wp2
            go_roundw
            case rel =>
              repeat apply Exists.intro
              exact ⟨⟨j + 1, S, by omega, by go_num, HW5, HO5, HC5, HF5, HN⟩, rfl⟩
            case measure => simp [intOf]; omega
          | true =>
            rw [hge] at HFI HFJ
            obtain ⟨r, hr⟩ : ∃ r, r = cntC bs k d (Z ++ [(j : Int)]) (max used (j + 1)) := ⟨_, rfl⟩
            rw [if_pos rfl, ← hr] at HFJ
            have HRR := Lib.hid hr
            have HN := Lib.hid (show sumF f 0 M = (S + r) + sumF f (j + 1) (M - (j + 1)) by rw [HR.out, HST.out, HFJ.out]; omega)
            have HSR := Lib.hid (show x + S + r ≤ 1000000 by have := HX.out; have := HN.out; omega)
            clear hge hr
            go_wp2_with fail
            refine HFI.out.mono ?_
            rintro e w5 ⟨rfl, hb5⟩
            have HG45 := Lib.hid (only_of_below hb5 (some g))
            have HB5 := Lib.hid (HB4.out.tr (G2.of Bf HG45.out) HGL.out)
            have q0 := (hb5.cell (p := ⟨w.heap.size, 0, none⟩) (by show w.heap.size < _; omega)).trans q0
            have q1 := (hb5.cell (p := ⟨w.heap.size, 1, none⟩) (by show w.heap.size < _; omega)).trans q1
            have q2 := (hb5.cell (p := ⟨w.heap.size, 2, none⟩) (by show w.heap.size < _; omega)).trans q2
            have q3 := (hb5.cell (p := ⟨w.heap.size, 3, none⟩) (by show w.heap.size < _; omega)).trans q3
            have HC5 := Lib.hid ((hb5.cell (p := ⟨Bf, 0, none⟩) (by show Bf < _; omega)).trans HC4.out)
            have HF5 := Lib.hid ((hb5.frozen (p := ⟨Bf, 0, none⟩) (by show Bf < _; omega)).trans HF4.out)
            have HI := Lib.hid (IH.out (L ++ [j]) (Z ++ [(j : Int)]) (by rw [HZ.out, natL_app]) (max used (j + 1)) (.slice (some ⟨g, 0, none⟩) (Z.length + 1) cap) w5 (x + S) HB5.out (HO4.out.below hb5 (Nat.le_refl _)) (by rw [List.length_append, List.length_singleton]; omega) (by omega) (HFS.out.next (by omega)) HC5.out HF5.out (by rw [← HRR.out]; exact HSR.out))
            rw [← HRR.out] at HI
            clear hb5
            by_cases hmx : used ≤ j
            · exfalso; omega
            · rw [show max used (j + 1) = used by omega] at HI
              have hmI : max (used : Int) ((j : Int) + 1) = (used : Int) := by omega
              go_wp2_with fail
              all_goals try (exfalso; omega)
              try rw [hmI]
              refine HI.out.mono ?_
              rintro e w6 ⟨rfl, hg6, hO6, hc6, hf6⟩
              have hg46 := (G2.of Bf HG45.out).tr hg6 (.inl rfl)
              have HO6 := Lib.hid (HBK.out.own2 hg46 (by omega) hO6)
              have HW6 := Lib.hid (HGR.out.tr ((G2.of Bf (World.grownBy_alloc _ _ (Value.slice a5 Z.length c5).ownBlock)).tr (HBK.out.grown2 (G2.of Bf HG4.out) hg46) (.inl rfl)) (.inl rfl))
              have HC6 := Lib.hid hc6
              have HF6 := Lib.hid hf6
              clear hg6 hO6 hg46 hc6 hf6
              go_wp2
              go_roundw
              case rel =>
                repeat apply Exists.intro
                exact ⟨⟨j + 1, S + r, by omega, by go_num, HW6, HO6, Lib.hid (by rw [← Nat.add_assoc]; exact HC6.out), HF6, HN⟩, rfl⟩
              case measure => simp [intOf]; omega
        · have HN := Lib.hid (show sumF f 0 M = S by rw [HR.out, show M - j = 0 by omega]; rfl)
          have t1 : decide ((j : Int) < (k : Int)) = false := by simp; omega
          have t2 : (k : Int) ≤ (j : Int) := by omega
          go_wp2
          go_ret
          exact ⟨rfl, (G2.of Bf (only_of_below HB0.out _)).tr HGR.out (.inl rfl), HOW.out, by rw [HN.out]; exact HCR.out, HFR.out⟩
    · have hMk : M = used + 1 := by omega
      have hMle : M ≤ used + 1 := by omega
      have hMge : used + 1 ≤ M := by omega
      clear hM hMk
      go_enter Try.func138, Try.ntmps138
      go_wp2_with fail
      all_goals try (exfalso; omega)
      rw [← hw2]
      go_loopw [34] (fun i wr => ∃ j S : Nat, j ≤ M ∧ i = .int .i64 j ∧ Hid (G2 w2 wr (Value.slice a5 Z.length c5).ownBlock Bf) ∧ Hid (OwnJ wr w0.heap.size (.slice a5 Z.length c5) Z) ∧ Hid (wr.cell? ⟨Bf, 0, none⟩ = some (.int .i64 ((x + S : Nat) : Int))) ∧ Hid (wr.frozen? ⟨Bf, 0, none⟩ = false) ∧ Hid (sumF f 0 M = S + sumF f j (M - j))) (fun i _ => M - (intOf i).toNat)
      case atStart => exact ⟨0, 0, Nat.zero_le _, rfl, Lib.hid (G2.refl _ _ _), HO2, HC2, HF2, Lib.hid (by rw [Nat.zero_add, Nat.sub_zero])⟩
      case round =>
        obtain ⟨j, S, hj, rfl, HGR, HOW, HCR, HFR, HR⟩ := hrel
        have hz := HGR.out.size
        have HBR := Lib.hid (HB2.out.tr HGR.out HROW.out)
        have hzr := HBR.out.size
        by_cases hjl : j < M
        · have t1 : decide ((j : Int) < (used : Int) + 1) = true := by simp; omega
          have HFJ := Lib.hid (show f j = if goodE false bs (Z ++ [(j : Int)]) then cntC bs k d (Z ++ [(j : Int)]) (max used (j + 1)) else 0 by rw [HF.out])
          have HST := Lib.hid (sumF_step f hjl)
          go_upto_region 10 with (at_builtin; refine wpList_append_one rfl _ _ rfl w0.heap.size (.slice a5 Z.length c5) Z rfl (by exact HOW.out.below ((Below.refl _ _).alloc (Nat.le_refl _) _) (Nat.le_refl _)) _ _ (j : Int) rfl (by simp [go_sem]) (by omega) (by simp; have := HBR.out.size; omega) ?_; intro g cap w4 hO4 hg4 hbk)
          have HBK := Lib.hid hbk
          have HG4 := Lib.hid hg4
          have hz4 := hg4.size
          simp at hz4
          have hgw4 := HGR.out.tr ((G2.of Bf (World.grownBy_alloc _ _ (Value.slice a5 Z.length c5).ownBlock)).tr (G2.of Bf hg4) (.inl rfl)) (.inl rfl)
          have HB4 := Lib.hid (HB2.out.tr hgw4 HROW.out)
          have hne : some w.heap.size ≠ (Value.slice a5 Z.length c5).ownBlock := fun e => by have := (HO0.out.in_ _ e.symm).2; omega
          have hneB : some Bf ≠ (Value.slice a5 Z.length c5).ownBlock := fun e => by have := HROW.out _ e.symm; omega
          have q0 := hgw4.cell s0 hne (Ne.symm hBfw) (by show w.heap.size < _; omega)
          have q1 := hgw4.cell s1 hne (Ne.symm hBfw) (by show w.heap.size < _; omega)
          have q2 := hgw4.cell s2 hne (Ne.symm hBfw) (by show w.heap.size < _; omega)
          have q3 := hgw4.cell s3 hne (Ne.symm hBfw) (by show w.heap.size < _; omega)
          have HC4 := Lib.hid (hg4.cell ((((Below.refl _ _).alloc (Nat.le_refl _) _).cell (p := ⟨Bf, 0, none⟩) (by show Bf < _; omega)).trans HCR.out) hneB)
          have HF4 := Lib.hid ((World.frozen?_of_block (a := ⟨Bf, 0, none⟩) (hg4.block Bf (by simp; omega) hneB)).trans ((((Below.refl _ _).alloc (Nat.le_refl _) _).frozen (p := ⟨Bf, 0, none⟩) (by show Bf < _; omega)).trans HFR.out))
          have HO4 : Hid (OwnJ w4 w0.heap.size (.slice (some ⟨g, 0, none⟩) (Z ++ [(j : Int)]).length cap) (Z ++ [(j : Int)])) := Lib.hid (by rw [List.length_append, List.length_singleton]; exact hO4)
          have HFI := Lib.hid (HFT.out _ (Z ++ [(j : Int)]) w4 HB4.out (HO4.out.ib (by rw [List.length_append, List.length_singleton]; omega)) (by simp) (by rw [List.length_append, List.length_singleton]; omega))
          have hln : (Z ++ [(j : Int)]).length = Z.length + 1 := by simp
          have hL15 : Z.length + 1 ≤ 15 := by omega
          have hgl : ∀ r, some g = some r → w0.heap.size ≤ r := fun r e => by cases e; exact (HO4.out.in_ g rfl).1
          have HGL := Lib.hid hgl
          rw [hln] at HFI HO4
          clear hO4 hg4 hbk hgw4 hln hne hneB hgl
          cases hge : goodE false bs (Z ++ [(j : Int)]) with
          | false =>
            rw [hge] at HFI HFJ
            have HN := Lib.hid (show sumF f 0 M = S + sumF f (j + 1) (M - (j + 1)) by rw [HR.out, HST.out, HFJ.out]; simp)
            clear hge HFJ
            go_wp2_with fail
            refine HFI.out.mono ?_
            rintro e w5 ⟨rfl, hb5⟩
            have hg45 : G2 w4 w5 (some g) Bf := G2.of Bf (only_of_below hb5 _)
            have HO5 := Lib.hid (HBK.out.own2 hg45 (by omega) (HO4.out.below hb5 (Nat.le_refl _)))
            have HW5 := Lib.hid (HGR.out.tr ((G2.of Bf (World.grownBy_alloc _ _ (Value.slice a5 Z.length c5).ownBlock)).tr (HBK.out.grown2 (G2.of Bf HG4.out) hg45) (.inl rfl)) (.inl rfl))
            have HC5 := Lib.hid ((hb5.cell (p := ⟨Bf, 0, none⟩) (by show Bf < _; omega)).trans HC4.out)
            have HF5 := Lib.hid ((hb5.frozen (p := ⟨Bf, 0, none⟩) (by show Bf < _; omega)).trans HF4.out)
            clear hb5 hg45
            go_wp2
            go_roundw
            case rel =>
              repeat apply Exists.intro
              exact ⟨⟨j + 1, S, by omega, by go_num, HW5, HO5, HC5, HF5, HN⟩, rfl⟩
            case measure => simp [intOf]; omega
          | true =>
            rw [hge] at HFI HFJ
            obtain ⟨r, hr⟩ : ∃ r, r = cntC bs k d (Z ++ [(j : Int)]) (max used (j + 1)) := ⟨_, rfl⟩
            rw [if_pos rfl, ← hr] at HFJ
            have HRR := Lib.hid hr
            have HN := Lib.hid (show sumF f 0 M = (S + r) + sumF f (j + 1) (M - (j + 1)) by rw [HR.out, HST.out, HFJ.out]; omega)
            have HSR := Lib.hid (show x + S + r ≤ 1000000 by have := HX.out; have := HN.out; omega)
            clear hge hr
            go_wp2_with fail
            refine HFI.out.mono ?_
            rintro e w5 ⟨rfl, hb5⟩
            have HG45 := Lib.hid (only_of_below hb5 (some g))
            have HB5 := Lib.hid (HB4.out.tr (G2.of Bf HG45.out) HGL.out)
            have q0 := (hb5.cell (p := ⟨w.heap.size, 0, none⟩) (by show w.heap.size < _; omega)).trans q0
            have q1 := (hb5.cell (p := ⟨w.heap.size, 1, none⟩) (by show w.heap.size < _; omega)).trans q1
            have q2 := (hb5.cell (p := ⟨w.heap.size, 2, none⟩) (by show w.heap.size < _; omega)).trans q2
            have q3 := (hb5.cell (p := ⟨w.heap.size, 3, none⟩) (by show w.heap.size < _; omega)).trans q3
            have HC5 := Lib.hid ((hb5.cell (p := ⟨Bf, 0, none⟩) (by show Bf < _; omega)).trans HC4.out)
            have HF5 := Lib.hid ((hb5.frozen (p := ⟨Bf, 0, none⟩) (by show Bf < _; omega)).trans HF4.out)
            have HI := Lib.hid (IH.out (L ++ [j]) (Z ++ [(j : Int)]) (by rw [HZ.out, natL_app]) (max used (j + 1)) (.slice (some ⟨g, 0, none⟩) (Z.length + 1) cap) w5 (x + S) HB5.out (HO4.out.below hb5 (Nat.le_refl _)) (by rw [List.length_append, List.length_singleton]; omega) (by omega) (HFS.out.next (by omega)) HC5.out HF5.out (by rw [← HRR.out]; exact HSR.out))
            rw [← HRR.out] at HI
            clear hb5
            by_cases hmx : used ≤ j
            · rw [show max used (j + 1) = j + 1 by omega] at HI
              have hmI : max (used : Int) ((j : Int) + 1) = ((j + 1 : Nat) : Int) := by omega
              go_wp2_with fail
              all_goals try (exfalso; omega)
              try rw [hmI]
              refine HI.out.mono ?_
              rintro e w6 ⟨rfl, hg6, hO6, hc6, hf6⟩
              have hg46 := (G2.of Bf HG45.out).tr hg6 (.inl rfl)
              have HO6 := Lib.hid (HBK.out.own2 hg46 (by omega) hO6)
              have HW6 := Lib.hid (HGR.out.tr ((G2.of Bf (World.grownBy_alloc _ _ (Value.slice a5 Z.length c5).ownBlock)).tr (HBK.out.grown2 (G2.of Bf HG4.out) hg46) (.inl rfl)) (.inl rfl))
              have HC6 := Lib.hid hc6
              have HF6 := Lib.hid hf6
              clear hg6 hO6 hg46 hc6 hf6
              go_wp2
              go_roundw
              case rel =>
                repeat apply Exists.intro
                exact ⟨⟨j + 1, S + r, by omega, by go_num, HW6, HO6, Lib.hid (by rw [← Nat.add_assoc]; exact HC6.out), HF6, HN⟩, rfl⟩
              case measure => simp [intOf]; omega
            · rw [show max used (j + 1) = used by omega] at HI
              have hmI : max (used : Int) ((j : Int) + 1) = (used : Int) := by omega
              go_wp2_with fail
              all_goals try (exfalso; omega)
              try rw [hmI]
              refine HI.out.mono ?_
              rintro e w6 ⟨rfl, hg6, hO6, hc6, hf6⟩
              have hg46 := (G2.of Bf HG45.out).tr hg6 (.inl rfl)
              have HO6 := Lib.hid (HBK.out.own2 hg46 (by omega) hO6)
              have HW6 := Lib.hid (HGR.out.tr ((G2.of Bf (World.grownBy_alloc _ _ (Value.slice a5 Z.length c5).ownBlock)).tr (HBK.out.grown2 (G2.of Bf HG4.out) hg46) (.inl rfl)) (.inl rfl))
              have HC6 := Lib.hid hc6
              have HF6 := Lib.hid hf6
              clear hg6 hO6 hg46 hc6 hf6
              go_wp2
              go_roundw
              case rel =>
                repeat apply Exists.intro
                exact ⟨⟨j + 1, S + r, by omega, by go_num, HW6, HO6, Lib.hid (by rw [← Nat.add_assoc]; exact HC6.out), HF6, HN⟩, rfl⟩
              case measure => simp [intOf]; omega
        · have HN := Lib.hid (show sumF f 0 M = S by rw [HR.out, show M - j = 0 by omega]; rfl)
          have t1 : decide ((j : Int) < (used : Int) + 1) = false := by simp; omega
          have t2 : (used : Int) + 1 ≤ (j : Int) := by omega
          go_wp2
          go_ret
          exact ⟨rfl, (G2.of Bf (only_of_below HB0.out _)).tr HGR.out (.inl rfl), HOW.out, by rw [HN.out]; exact HCR.out, HFR.out⟩
end Go.Proofs.Ytkpnlecmfmbkaaa

namespace Go.Proofs.Ytkpnlecmfmbkaaa
open Go.RowKit Go.Maps Go.Shelf
def cntFV (v : Int) (bs : List Blk) (k : Int) : Value := .tuple #[.int .i64 (cntF v bs k).1, .int .i64 (cntF v bs k).2]
set_option maxRecDepth 100000 in
set_option maxHeartbeats 1000000 in
theorem specCountColourings_any (v : Int) (s : Value) (bs : List Blk) (k : Int) (w : World) (h : SB w s bs) :
    Calls Try.prog 78 #[.agg #[.int .i64 v, s], .int .i64 k] w (RV (cntFV v bs k) w) := by
  have HI := Lib.hid fun W (hb : Below w.heap.size w W) => l01Is_any v s bs W (h.below hb (Nat.le_refl _))
  have HN := Lib.hid fun W => l01In_any k 1 3 W
  have hb0 : Below w.heap.size w (w.alloc (.cells #[.int .i64 v, s] 32)) := (Below.refl _ _).alloc (Nat.le_refl _) _
  have HSB := Lib.hid h
  obtain ⟨a0, c0, rfl⟩ := h.slice
  clear h
  cases hi : isSysImpl v bs with
  | false =>
    have HC := Lib.hid (show cntFV v bs k = .tuple #[.int .i64 0, .int .i64 1] by simp [cntFV, cntF, hi])
    rw [hi] at HI
    rw [HC.out]
    clear hi HSB
    go_enter Try.func78, Try.ntmps78
    go_wp2_with fail
    refine (HI.out _ hb0).mono ?_
    rintro e w1 ⟨rfl, hb1⟩
    have hbw := below_new hb1
    clear hb1
    go_wp2
    go_ret2
    exact RV_of rfl hbw
  | true =>
    rw [hi] at HI
    cases hk : (decide (1 ≤ k) && decide (k ≤ 3)) with
    | false =>
      have HC := Lib.hid (show cntFV v bs k = .tuple #[.int .i64 0, .int .i64 2] by simp only [cntFV, cntF, hi, hk]; simp)
      rw [hk] at HN
      rw [HC.out]
      clear hi hk HSB
      go_enter Try.func78, Try.ntmps78
      go_wp2_with fail
      refine (HI.out _ hb0).mono ?_
      rintro e w1 ⟨rfl, hb1⟩
      have hbw := below_new hb1
      clear hb1
      go_wp2_with fail
      refine (HN.out _).mono ?_
      rintro e w2 ⟨rfl, rfl⟩
      go_wp2
      go_ret2
      exact RV_of rfl hbw
    | true =>
      rw [hk] at HN
      by_cases h9 : v ≤ 9
      · have hk1 : 1 ≤ k ∧ k ≤ 3 := by simpa using hk
        obtain ⟨k1, k3⟩ := hk1
        obtain ⟨v3, v15, _⟩ := sys_size hi
        have hok := sys_ok hi
        have HC := Lib.hid (show cntFV v bs k = .tuple #[.int .i64 (allC bs k.toNat v.toNat [] : Nat), .int .i64 0] by simp only [cntFV, cntF, hi, hk]; simp [h9])
        obtain ⟨n, rfl⟩ : ∃ n : Nat, v = n := ⟨v.toNat, by omega⟩
        obtain ⟨kn, rfl⟩ : ∃ n : Nat, k = n := ⟨k.toNat, by omega⟩
        rw [Int.toNat_natCast, Int.toNat_natCast] at HC
        have HF := Lib.hid fun W (hb : Below w.heap.size w W) => l07All_any n kn (.slice a0 bs.length c0) bs hok (by omega) (by omega) n [] (W.alloc (.cells #[] 2)) W.heap.size W.heap.size 0 (HSB.out.below (hb.trans (((Below.refl _ _).alloc (Nat.le_refl _) _).mono hb.size)) (Nat.le_refl _)) (OwnJ.new0 W (Nat.le_refl _)) (by simp) (by simp) (good_nil false hok)
        have t9 : decide ((9 : Int) < (n : Int)) = false := by simp; omega
        rw [HC.out]
        clear hi hk hok HSB
        go_enter Try.func78, Try.ntmps78
        go_wp2_with fail
        refine (HI.out _ hb0).mono ?_
        rintro e w1 ⟨rfl, hb1⟩
        have q0 := cell_new hb1 0 rfl
        have q1 := cell_new hb1 1 rfl
        have hbw := below_new hb1
        clear hb1
        have hba : Below w1.heap.size w1 (w1.alloc (.cells #[] 2)) := (Below.refl _ _).alloc (Nat.le_refl _) _
        have hbwa := hbw.trans (hba.mono hbw.size)
        have HFF := Lib.hid (HF.out w1 hbw)
        go_wp2_with fail
        refine (HN.out _).mono ?_
        rintro e w2 ⟨rfl, rfl⟩
        go_wp2_with fail
        refine HFF.out.mono ?_
        rintro e w3 ⟨rfl, hb3⟩
        have hbw3 := hbwa.trans (hb3.mono hbwa.size)
        clear hb3
        go_wp2
        go_ret2
        exact RV_of rfl hbw3
      · have HC := Lib.hid (show cntFV v bs k = .tuple #[.int .i64 0, .int .i64 3] by simp only [cntFV, cntF, hi, hk]; simp [h9])
        have t9 : decide ((9 : Int) < v) = true := by simp; omega
        rw [HC.out]
        clear hi hk HSB
        go_enter Try.func78, Try.ntmps78
        go_wp2_with fail
        refine (HI.out _ hb0).mono ?_
        rintro e w1 ⟨rfl, hb1⟩
        have q0 := cell_new hb1 0 rfl
        have q1 := cell_new hb1 1 rfl
        have hbw := below_new hb1
        clear hb1
        go_wp2_with fail
        refine (HN.out _).mono ?_
        rintro e w2 ⟨rfl, rfl⟩
        go_wp2
        go_ret2
        exact RV_of rfl hbw
end Go.Proofs.Ytkpnlecmfmbkaaa

namespace Go.Proofs.Ytkpnlecmfmbkaaa
open Go.RowKit Go.Maps Go.Shelf
set_option maxRecDepth 100000 in
set_option maxHeartbeats 4000000 in
theorem firstList_any (strict : Bool) (v : Int) (s : Value) (bs : List Blk) (k least : Int) (w : World) (h : SB w s bs) (hls : 1 ≤ k → k ≤ 6 → least = ((leastOf strict k.toNat : Nat) : Int)) :
    Calls Try.prog 135 #[.agg #[.int .i64 v, s], ruleV strict, .int .i64 k, .int .i64 least] w (RJ (firF strict v bs k) w) := by
  have HI := Lib.hid fun W (hb : Below w.heap.size w W) => IsSystem_any v s bs W (h.below hb (Nat.le_refl _))
  have HN := Lib.hid fun W => isColourNumber_any k W
  have hb0 := (Below.refl w.heap.size w).alloc (Nat.le_refl _) (.cells #[.int .i64 v, s] 32)
  have HSB := Lib.hid h
  have hlb := h.2.1
  obtain ⟨T0, hT0⟩ := ruleV_form strict
  obtain ⟨a0, c0, rfl⟩ := h.slice
  clear h
  cases hi : isSysImpl v bs with
  | false =>
    have HV := Lib.hid (show firF strict v bs k = ([], 1) by simp [firF, hi])
    rw [hi] at HI
    rw [HV.out, hT0]
    clear hi hls HN HSB
    go_enter Try.func135, Try.ntmps135
    go_wp2_with fail
    refine (HI.out _ hb0).mono ?_
    rintro e w1 ⟨rfl, hb1⟩
    have hbw := below_new hb1
    clear hb1
    go_wp2
    go_ret2
    exact ⟨_, rfl, OwnJ.nil _ _, hbw⟩
  | true =>
    rw [hi] at HI
    cases hk : (decide (1 ≤ k) && decide (k ≤ 6)) with
    | false =>
      have HV := Lib.hid (show firF strict v bs k = ([], 2) by simp only [firF, hi, hk]; simp)
      rw [hk] at HN
      rw [HV.out, hT0]
      clear hi hk hls HSB
      go_enter Try.func135, Try.ntmps135
      go_wp2_with fail
      refine (HI.out _ hb0).mono ?_
      rintro e w1 ⟨rfl, hb1⟩
      have hbw := below_new hb1
      clear hb1
      go_wp2_with fail
      refine (HN.out _).mono ?_
      rintro e w2 ⟨rfl, rfl⟩
      go_wp2
      go_ret2
      exact ⟨_, rfl, OwnJ.nil _ _, hbw⟩
    | true =>
      rw [hk] at HN
      have hk1 : 1 ≤ k ∧ k ≤ 6 := by simpa using hk
      obtain ⟨k1, k6⟩ := hk1
      obtain ⟨v3, v15, _⟩ := sys_size hi
      have hok := sys_ok hi
      have hokc : ∀ x ∈ bs, okB x ∧ x.c < v := fun x hx => ⟨hok x hx, (goodB_iff.1 (sys_good hi x hx)).2.2.2⟩
      have hls2 := hls k1 k6
      obtain ⟨n, rfl⟩ : ∃ n : Nat, v = n := ⟨v.toNat, by omega⟩
      obtain ⟨kn, rfl⟩ : ∃ n : Nat, k = n := ⟨k.toNat, by omega⟩
      rw [Int.toNat_natCast] at hls2
      obtain ⟨ln, hln⟩ : ∃ ln, ln = leastOf strict kn := ⟨_, rfl⟩
      have hl6 : ln ≤ 6 := by rw [hln]; unfold leastOf; split <;> omega
      rw [← hln] at hls2
      subst hls2
      obtain ⟨r, hr⟩ : ∃ r, r = findC strict bs kn ln n [] 0 := ⟨_, rfl⟩
      have HV := Lib.hid (show firF strict (n : Int) bs (kn : Int) = firR r by unfold firF; rw [if_pos hi, if_pos (by simp; omega), Int.toNat_natCast, Int.toNat_natCast, hr, hln])
      have HSO := Lib.hid fun W (hb : Below w.heap.size w W) => searchOf_any strict n kn ln (.slice a0 bs.length c0) bs W (HSB.out.below hb (Nat.le_refl _)) hokc (by omega) (by omega)
      have HEA := Lib.hid fun G Bf uu W (hT : TabB W G n (endB bs) uu) (hc0 : W.cell? ⟨Bf, 0, none⟩ = some (.slice none 0 0)) (hf0 : W.frozen? ⟨Bf, 0, none⟩ = false) (hBf : Bf < W.heap.size) => each_any strict kn ln n G Bf uu bs W hT hlb hok (by omega) (by omega) (by omega) hl6 (.slice none 0 0) hc0 hf0 hBf n [] 0 (.slice none 0 0) W (Below.refl _ _) (OwnJ.nil _ _) (by simp) (by omega)
      rw [← hr] at HEA
      unfold srchV at HEA
      rw [hT0] at HSO HEA ⊢
      clear hi hk hls hok hokc hr hln HSB hT0
      go_enter Try.func135, Try.ntmps135
      go_wp2_with fail
      refine (HI.out _ hb0).mono ?_
      rintro e w1 ⟨rfl, hb1⟩
      have q0 := cell_new hb1 0 rfl
      have q1 := cell_new hb1 1 rfl
      have hbw := below_new hb1
      clear hb1
      have hb2 : Below w1.heap.size w1 (w1.alloc (.cells #[.slice none 0 0] 27)) := (Below.refl _ _).alloc (Nat.le_refl _) _
      have c2 : (w1.alloc (.cells #[.slice none 0 0] 27)).cell? ⟨w1.heap.size, 0, none⟩ = some (.slice none 0 0) := by simp
      have f2 : (w1.alloc (.cells #[.slice none 0 0] 27)).frozen? ⟨w1.heap.size, 0, none⟩ = false := by simp
      have hz2 : w1.heap.size < (w1.alloc (.cells #[.slice none 0 0] 27)).heap.size := by simp
      have hlt1 : w.heap.size < w1.heap.size := block_lt_of_cell q0
      have q0 := (hb2.cell (p := ⟨w.heap.size, 0, none⟩) hlt1).trans q0
      have q1 := (hb2.cell (p := ⟨w.heap.size, 1, none⟩) hlt1).trans q1
      go_wp2_with fail
      refine (HN.out _).mono ?_
      rintro e w2 ⟨rfl, rfl⟩
      go_wp2_with fail
      have hbw2 := hbw.trans (hb2.mono hbw.size)
      refine (HSO.out _ hbw2).mono ?_
      rintro e w3 ⟨G, uu, rfl, hT, hG, hb3⟩
      have c3 := (hb3.cell (p := ⟨w1.heap.size, 0, none⟩) hz2).trans c2
      have f3 := (hb3.frozen (p := ⟨w1.heap.size, 0, none⟩) hz2).trans f2
      have hz3 := hb3.size
      have hbw3 := hbw2.trans (hb3.mono hbw2.size)
      have HEE := Lib.hid (HEA.out G w1.heap.size uu w3 hT c3 f3 (by omega))
      clear hT hb3 hb2 c2 f2 HSO HEA
      cases r with
      | none =>
        have HV2 := Lib.hid (HV.out.trans (rfl : firR none = ([], 4)))
        clear HV
        go_wp2_with fail
        refine HEE.out.mono ?_
        rintro e w4 ⟨rfl, hg4, _⟩
        have hbw4 := hbw3.trans (gb_lo hg4 hbw3.size (fun r e => by simp [Value.ownBlock] at e))
        clear hg4
        go_wp2
        go_ret2
        rw [HV2.out]
        exact ⟨_, rfl, OwnJ.nil _ _, hbw4⟩
      | some R =>
        have HV2 := Lib.hid (HV.out.trans (rfl : firR (some R) = (R, 0)))
        clear HV
        go_wp2_with fail
        refine HEE.out.mono ?_
        rintro e w4 ⟨rfl, g, cap, d4, hO4, hb4⟩
        have hbw4 := hbw3.trans (hb4.mono hbw.size)
        have HO4 : Hid (OwnJ w4 w.heap.size (.slice (some ⟨g, 0, none⟩) R.length cap) R) := Lib.hid (ownsRow_base hO4 hbw3.size)
        clear hO4 hb4 q0 q1 c3 f3
        go_wp2
        go_ret2
        rw [HV2.out]
        exact ⟨_, rfl, HO4.out, hbw4⟩
set_option maxRecDepth 100000 in
theorem FirstColouring_any (v : Int) (s : Value) (bs : List Blk) (k : Int) (w : World) (h : SB w s bs) :
    Calls Try.prog 73 #[.agg #[.int .i64 v, s], .int .i64 k] w (RJ (firF false v bs k) w) := by
  have HK : Hid (∀ W, Below w.heap.size w W → Calls Try.prog 135 #[.agg #[.int .i64 v, s], .iface 113 (.agg #[]), .int .i64 k, .int .i64 1] W (RJ (firF false v bs k) W)) := Lib.hid fun W hb => firstList_any false v s bs k 1 W (h.below hb (Nat.le_refl _)) (fun _ _ => rfl)
  obtain ⟨a0, c0, rfl⟩ := h.slice
  obtain ⟨F, hF⟩ : ∃ F, F = firF false v bs k := ⟨_, rfl⟩
  rw [← hF] at HK ⊢
  obtain ⟨R, κ⟩ := F
  clear h hF
  go_enter Try.func73, Try.ntmps73
  go_wp2_with fail
  refine (HK.out _ ((Below.refl _ _).alloc (Nat.le_refl _) _)).mono ?_
  rintro e w1 ⟨u, rfl, hO, hb1⟩
  have hbw := below_new hb1
  have HO : Hid (OwnJ w1 w.heap.size u R) := Lib.hid (ownsRow_base hO (by simp))
  obtain ⟨a6, c6, rfl⟩ := OwnJ.formS HO.out
  clear hO hb1
  go_wp2
  go_ret2
  exact ⟨_, rfl, HO.out, hbw⟩
set_option maxRecDepth 100000 in
theorem FirstStrict_any (v : Int) (s : Value) (bs : List Blk) (k : Int) (w : World) (h : SB w s bs) :
    Calls Try.prog 75 #[.agg #[.int .i64 v, s], .int .i64 k] w (RJ (firF true v bs k) w) := by
  have HK : Hid (∀ W, Below w.heap.size w W → Calls Try.prog 135 #[.agg #[.int .i64 v, s], .iface 114 (.agg #[]), .int .i64 k, .int .i64 k] W (RJ (firF true v bs k) W)) := Lib.hid fun W hb => firstList_any true v s bs k k W (h.below hb (Nat.le_refl _)) (fun h1 _ => by rw [least_true]; omega)
  obtain ⟨a0, c0, rfl⟩ := h.slice
  obtain ⟨F, hF⟩ : ∃ F, F = firF true v bs k := ⟨_, rfl⟩
  rw [← hF] at HK ⊢
  obtain ⟨R, κ⟩ := F
  clear h hF
  go_enter Try.func75, Try.ntmps75
  go_wp2_with fail
  refine (HK.out _ ((Below.refl _ _).alloc (Nat.le_refl _) _)).mono ?_
  rintro e w1 ⟨u, rfl, hO, hb1⟩
  have hbw := below_new hb1
  have HO : Hid (OwnJ w1 w.heap.size u R) := Lib.hid (ownsRow_base hO (by simp))
  obtain ⟨a6, c6, rfl⟩ := OwnJ.formS HO.out
  clear hO hb1
  go_wp2
  go_ret2
  exact ⟨_, rfl, HO.out, hbw⟩
end Go.Proofs.Ytkpnlecmfmbkaaa

namespace Go.Proofs.Ytkpnlecmfmbkaaa
open Go.RowKit Go.Maps Go.Shelf
theorem G2.lo {w w' : World} {row : Option Nat} {Bf B : Nat} (h : G2 w w' row Bf) (hB : B ≤ w.heap.size) (hf : B ≤ Bf) (hr : ∀ r, row = some r → B ≤ r) : Below B w w' :=
  ⟨h.os, h.tape, h.output, h.size, fun k hk => h.block k (by omega) (fun e => by have := hr k e.symm; omega) (by omega)⟩
set_option maxRecDepth 100000 in
set_option maxHeartbeats 4000000 in
theorem CountColourings_any (v : Int) (s : Value) (bs : List Blk) (k : Int) (w : World) (h : SB w s bs) :
    Calls Try.prog 79 #[.agg #[.int .i64 v, s], .int .i64 k] w (RV (cntFV v bs k) w) := by
  have HI := Lib.hid fun W (hb : Below w.heap.size w W) => IsSystem_any v s bs W (h.below hb (Nat.le_refl _))
  have hb0 : Below w.heap.size w ((w.alloc (.cells #[.int .i64 v, s] 32)).alloc (.cells #[.int .i64 k] 2)) := ((Below.refl _ _).alloc (Nat.le_refl _) _).alloc (by simp) _
  have HSB := Lib.hid h
  have hlb := h.2.1
  obtain ⟨a0, c0, rfl⟩ := h.slice
  clear h
  cases hi : isSysImpl v bs with
  | false =>
    have HC := Lib.hid (show cntFV v bs k = .tuple #[.int .i64 0, .int .i64 1] by simp [cntFV, cntF, hi])
    rw [hi] at HI
    rw [HC.out]
    clear hi HSB
    go_enter Try.func79, Try.ntmps79
    go_wp2_with fail
    refine (HI.out _ hb0).mono ?_
    rintro e w1 ⟨rfl, hb1⟩
    have hbw := hb0.trans (hb1.mono hb0.size)
    clear hb1
    go_wp2
    go_ret2
    exact RV_of rfl hbw
  | true =>
    rw [hi] at HI
    obtain ⟨v3, v15, _⟩ := sys_size hi
    have hok := sys_ok hi
    have hokc : ∀ x ∈ bs, okB x ∧ x.c < v := fun x hx => ⟨hok x hx, (goodB_iff.1 (sys_good hi x hx)).2.2.2⟩
    go_enter Try.func79, Try.ntmps79
    go_wp2_with fail
    refine (HI.out _ hb0).mono ?_
    rintro e w1 ⟨rfl, hb1⟩
    have hbw := hb0.trans (hb1.mono hb0.size)
    have hz1 := hb1.size
    simp at hz1
    have q0 : w1.cell? ⟨w.heap.size, 0, none⟩ = some (.int .i64 v) := (hb1.cell (p := ⟨w.heap.size, 0, none⟩) (by simp; omega)).trans (by simp)
    have q1 : w1.cell? ⟨w.heap.size, 1, none⟩ = some (.slice a0 bs.length c0) := (hb1.cell (p := ⟨w.heap.size, 1, none⟩) (by simp; omega)).trans (by simp)
    have q2 : w1.cell? ⟨w.heap.size + 1, 0, none⟩ = some (.int .i64 k) := (hb1.cell (p := ⟨w.heap.size + 1, 0, none⟩) (by simp)).trans (by simp)
    clear hb1
    by_cases k1 : 1 ≤ k
    · by_cases k3 : k ≤ 3
      · have t1 : decide (k < 1) = false := by simp; omega
        have t3 : decide (3 < k) = false := by simp; omega
        by_cases h9 : v ≤ 9
        · have t9 : decide ((9 : Int) < v) = false := by simp; omega
          have HC := Lib.hid (show cntFV v bs k = .tuple #[.int .i64 (allC bs k.toNat v.toNat [] : Nat), .int .i64 0] by simp only [cntFV, cntF, hi]; simp [h9, k1, k3])
          obtain ⟨n, rfl⟩ : ∃ n : Nat, v = n := ⟨v.toNat, by omega⟩
          obtain ⟨kn, rfl⟩ : ∃ n : Nat, k = n := ⟨k.toNat, by omega⟩
          rw [Int.toNat_natCast, Int.toNat_natCast] at HC
          have hcw := cnt_whole (k := kn) hok n
          have hcs := allC_small (bs := bs) (k := kn) (d := n) (L := []) (by omega) (by omega)
          rw [← hcw] at HC hcs
          obtain ⟨c, hc⟩ : ∃ c, c = cntC bs kn n [] 0 := ⟨_, rfl⟩
          rw [← hc] at HC hcs
          obtain ⟨w2, hw2⟩ : ∃ w2, w2 = w1.alloc (.cells #[.int .i64 0] 2) := ⟨_, rfl⟩
          have hB2 : Below w1.heap.size w1 w2 := by rw [hw2]; exact (Below.refl _ _).alloc (Nat.le_refl _) _
          have hz2 : w2.heap.size = w1.heap.size + 1 := by rw [hw2]; simp
          have cB : w2.cell? ⟨w1.heap.size, 0, none⟩ = some (.int .i64 0) := by rw [hw2]; simp
          have fB : w2.frozen? ⟨w1.heap.size, 0, none⟩ = false := by rw [hw2]; simp
          have hbw2 := hbw.trans (hB2.mono hbw.size)
          have q2' := (hB2.cell (p := ⟨w.heap.size + 1, 0, none⟩) (by show w.heap.size + 1 < _; omega)).trans q2
          have HSO : Hid (Calls Try.prog 137 #[.agg #[.int .i64 (n : Int), .slice a0 bs.length c0], .iface 113 (.agg #[]), .int .i64 (kn : Int), .int .i64 1] w2 (fun e w' => ∃ G u, e = .returned (.agg #[.iface 113 (.agg #[]), .int .i64 (kn : Int), .int .i64 1, .slice (some ⟨G, 0, none⟩) n n]) ∧ TabB w' G n (endB bs) u ∧ w2.heap.size ≤ G ∧ Below w2.heap.size w2 w')) := Lib.hid (searchOf_any false n kn 1 (.slice a0 bs.length c0) bs w2 (HSB.out.below hbw2 (Nat.le_refl _)) hokc (by omega) (by omega))
          have HEA : Hid (∀ G uu W (_ : TabB W G n (endB bs) uu) (_ : Below w2.heap.size w2 W) (_ : w2.heap.size ≤ G), Calls Try.prog 138 #[.agg #[.iface 113 (.agg #[]), .int .i64 (kn : Int), .int .i64 1, .slice (some ⟨G, 0, none⟩) n n], .slice none 0 0, .int .i64 0, .func (.func 139) #[] #[.pointer (some ⟨w.heap.size + 1, 0, none⟩), .pointer (some ⟨w1.heap.size, 0, none⟩)]] W (CntQ c (.slice none 0 0) [] w1.heap.size W.heap.size 0 W)) := Lib.hid fun G uu W hT hb hG => by
            have hsz := hb.size
            have := eachC_any kn n G (w.heap.size + 1) w1.heap.size uu bs W hT hlb hok (by omega) (by omega) (by omega) ((hb.cell (p := ⟨w.heap.size + 1, 0, none⟩) (by show w.heap.size + 1 < _; omega)).trans q2') (by omega) (by omega) n [] [] rfl 0 (.slice none 0 0) W 0 (G3.refl _ _) (OwnJ.nil _ _) (by simp) (Nat.zero_le _) ⟨by simp, .inl rfl⟩ ((hb.cell (p := ⟨w1.heap.size, 0, none⟩) (by show w1.heap.size < _; omega)).trans cB) ((hb.frozen (p := ⟨w1.heap.size, 0, none⟩) (by show w1.heap.size < _; omega)).trans fB) (by rw [← hc]; omega)
            rw [← hc] at this
            exact this
          clear hok hokc hi hcw hc HSB
          go_upto_region 8 with fail
          rw [← hw2]
          have q0 := (hB2.cell (p := ⟨w.heap.size, 0, none⟩) (by show w.heap.size < _; omega)).trans q0
          have q1 := (hB2.cell (p := ⟨w.heap.size, 1, none⟩) (by show w.heap.size < _; omega)).trans q1
          have q2 := q2'
          clear hw2
          go_wp2_with fail
          refine HSO.out.mono ?_
          rintro e w3 ⟨G, uu, rfl, hT, hG, hb3⟩
          have HE := Lib.hid (HEA.out G uu w3 hT hb3 hG)
          have hz3 := hb3.size
          have hbw3 := hbw2.trans (hb3.mono hbw2.size)
          clear hT hb3 HSO HEA
          go_wp2_with fail
          refine HE.out.mono ?_
          rintro e w4 ⟨rfl, hg4, _, c4, _⟩
          have hbw4 := hbw3.trans (hg4.lo hbw3.size (by omega) (fun r e => by cases e))
          rw [Nat.zero_add] at c4
          clear hg4
          go_wp2
          go_ret2
          rw [HC.out]
          exact RV_of rfl hbw4
        · have HC := Lib.hid (show cntFV v bs k = .tuple #[.int .i64 0, .int .i64 3] by simp only [cntFV, cntF, hi]; simp [h9, k1, k3])
          have t9 : decide ((9 : Int) < v) = true := by simp; omega
          clear hok hokc hi
          go_wp2
          go_ret2
          rw [HC.out]
          exact RV_of rfl hbw
      · have HC := Lib.hid (show cntFV v bs k = .tuple #[.int .i64 0, .int .i64 2] by simp only [cntFV, cntF, hi]; simp [k3])
        have t1 : decide (k < 1) = false := by simp; omega
        have t3 : decide (3 < k) = true := by simp; omega
        clear hok hokc hi
        go_wp2
        go_ret2
        rw [HC.out]
        exact RV_of rfl hbw
    · have HC := Lib.hid (show cntFV v bs k = .tuple #[.int .i64 0, .int .i64 2] by simp only [cntFV, cntF, hi]; simp [k1])
      have t1 : decide (k < 1) = true := by simp; omega
      clear hok hokc hi
      go_wp2
      go_ret2
      rw [HC.out]
      exact RV_of rfl hbw
end Go.Proofs.Ytkpnlecmfmbkaaa

namespace Go.Proofs.Ytkpnlecmfmbkaaa
open Go.RowKit Go.Maps
set_option maxRecDepth 100000 in
theorem FnExactCountColourings_long (v : Int) (s : Value) (bs : List Blk) (pk : Int) (w : World) (h : InB w s bs) (hl : ¬ bs.length ≤ 1048576) : Calls Try.prog 23 #[.agg #[.int .i64 v, s], .int .i64 pk] w (RV (.bool true) w) := by
  have hsl := h.slice
  have hbd := h.2.1
  have hsz := szSystem_any v s bs.length hsl (by omega) 1048576 (by omega) (by omega)
  rw [if_pos (by omega)] at hsz
  have HSZ := Lib.hid hsz
  clear hsz h
  obtain ⟨a, c, rfl⟩ := hsl
  go_enter Try.func23, Try.ntmps23
  go_wp2_with (go_at_call 24; refine (HSZ.out _).mono ?_; rintro e w1 ⟨rfl, hb1⟩)
  go_ret
  exact RV_of rfl (((Below.refl _ _).alloc (Nat.le_refl _) _).trans (hb1.mono (by simp)))

set_option maxRecDepth 100000 in
set_option maxHeartbeats 1000000 in
theorem FnExactCountColourings_main (v : Int) (s : Value) (bs : List Blk) (pk : Int) (_h1 : WF pk) (w : World) (h : InB w s bs) (hl : bs.length ≤ 1048576) : Calls Try.prog 23 #[.agg #[.int .i64 v, s], .int .i64 pk] w (RV (.bool true) w) := by
  have hsl := h.slice
  have hbd := h.2.1
  have hsz := szSystem_any v s bs.length hsl (by omega) 1048576 (by omega) (by omega)
  have hsb := h.sb hl
  rw [if_neg (by omega)] at hsz
  obtain ⟨m, hm⟩ : ∃ m, m = (1048576 : Int) - (bs.length : Int) := ⟨_, rfl⟩
  rw [← hm] at hsz
  have hm0 : 0 ≤ m := by omega
  have HSZ := Lib.hid hsz
  have HSB := Lib.hid hsb
  have hwf := h.1
  have HWF := Lib.hid hwf
  have HBD := Lib.hid (show bs.length ≤ 1100000 by omega)
  clear hsz hsb hm h hl hbd hwf
  have hsp : ∀ (W : World) (t : Value), SB W t bs → Calls Try.prog 78 #[.agg #[.int .i64 v, t], .int .i64 pk] W (RV (cntFV v bs pk) W) := fun W t ht => specCountColourings_any v t bs pk W ht
  have him : ∀ (W : World) (t : Value), SB W t bs → Calls Try.prog 79 #[.agg #[.int .i64 v, t], .int .i64 pk] W (RV (cntFV v bs pk) W) := fun W t ht => CountColourings_any v t bs pk W ht
  obtain ⟨η, κ, hval⟩ : ∃ η κ, cntFV v bs pk = .tuple #[.int .i64 η, .int .i64 κ] := by
    unfold cntFV
    repeat (first | exact ⟨_, _, rfl⟩ | split)
  rw [hval] at hsp him
  have HSP := Lib.hid hsp
  have HIM := Lib.hid him
  clear hval hsp him
  have hne1 : (η != η) = false := by simp
  have hne2 : (κ != κ) = false := by simp
  obtain ⟨a, c, rfl⟩ := hsl
  go_enter Try.func23, Try.ntmps23
  go_wp2_with fail
  refine (HSZ.out _).mono ?_
  rintro e w1 ⟨rfl, hb1⟩
  have p0 := cell_new hb1 0 rfl
  have p1 := cell_new hb1 1 rfl
  have hz1 := hb1.size
  simp at hz1
  have hbw : Below w.heap.size w w1 := ((Below.refl _ _).alloc (Nat.le_refl _) _).trans (hb1.mono (by simp))
  clear hb1
  go_wp2_with fail
  refine (toSystem_any v _ bs _ (HSB.out.below hbw (Nat.le_refl _))).mono ?_
  rintro e w2 ⟨s2, rfl, ho2, hb2⟩
  have hsb2 := ho2.sb HWF.out HBD.out
  go_wp2_with fail
  refine (HSP.out _ _ hsb2).mono ?_
  rintro e w3 ⟨rfl, hb3⟩
  have hb13 := hb2.trans (hb3.mono hb2.size)
  have p0' := (hb13.cell (p := ⟨w.heap.size, 0, none⟩) (by show w.heap.size < _; omega)).trans p0
  have p1' := (hb13.cell (p := ⟨w.heap.size, 1, none⟩) (by show w.heap.size < _; omega)).trans p1
  have hz3 := hb13.size
  have hbw3 := hbw.trans (hb13.mono (by omega))
  clear p0 p1 hb2 hb3 hb13 ho2 hsb2 hbw
  go_wp2_with fail
  refine (toSystem_any v _ bs _ (HSB.out.below hbw3 (Nat.le_refl _))).mono ?_
  rintro e w4 ⟨s4, rfl, ho4, hb4⟩
  obtain ⟨g, cap, hs4, h41, h42, h43, h44⟩ := id ho4
  subst hs4
  have p0 := (hb4.cell (p := ⟨w.heap.size, 0, none⟩) (by show w.heap.size < _; omega)).trans p0'
  have p1 := (hb4.cell (p := ⟨w.heap.size, 1, none⟩) (by show w.heap.size < _; omega)).trans p1'
  have hz4 := hb4.size
  have hbw4 := hbw3.trans (hb4.mono (by omega))
  have hsb4 := ho4.sb HWF.out HBD.out
  clear p0' p1' hb4 hbw3 h41 h43 h44 ho4
  go_wp2_with fail
  refine (HIM.out _ _ (hsb4.below ((Below.refl _ _).alloc (Nat.le_refl _) _) (Nat.le_refl _))).mono ?_
  rintro e w5 ⟨rfl, hb5⟩
  have q0 := cell_new hb5 0 rfl
  have q1 := cell_new hb5 1 rfl
  have p0' := (hb5.cell (p := ⟨w.heap.size, 0, none⟩) (by simp; omega)).trans (cell_past p0 (by omega))
  have p1' := (hb5.cell (p := ⟨w.heap.size, 1, none⟩) (by simp; omega)).trans (cell_past p1 (by omega))
  have hz5 := hb5.size
  simp at hz5
  have hbw5 := (hbw4.alloc hbw4.size _).trans (hb5.mono (by simp; omega))
  have hsb5 := hsb4.below (((Below.refl _ _).alloc (Nat.le_refl _) _).trans (hb5.mono (by simp))) (Nat.le_refl _)
  clear p0 p1 hb5 hbw4 hsb4
  go_wp2
  go_region_with (first | (go_at_call 26; refine (toSystem_any v _ bs _ ?_).mono ?_; (exact HSB.out.below hbw5.drew (Nat.le_refl _)); rintro e w6 ⟨s6, rfl, ho6, hb6⟩; obtain ⟨g6, cap6, hs6, h61, h62, h63, h64⟩ := id ho6; subst hs6; have hsb6 := ho6.sb HWF.out HBD.out; have hsb56 := hsb5.below (Below.trans (Below.refl _ _).drew hb6) (Nat.le_refl _); have r0 := (hb6.cell (p := ⟨w4.heap.size, 0, none⟩) (by show w4.heap.size < _; simp; omega)).trans q0; have r1 := (hb6.cell (p := ⟨w4.heap.size, 1, none⟩) (by show w4.heap.size < _; simp; omega)).trans q1) | (go_at_call 30; refine (eqSystem_same v _ _ bs _ ?_ ?_).mono ?_; (exact hsb56); (exact hsb6); rintro e w7 ⟨rfl, hb7⟩))
  all_goals go_wp2
  all_goals go_ret
  all_goals exact RV_of rfl (hbw5.drew.trans ((hb6.mono (by simp; omega)).trans (hb7.mono (by have := hb6.size; simp at this; omega))))

theorem FnExactCountColourings_any (v : Int) (s : Value) (bs : List Blk) (pk : Int) (_h1 : WF pk) (w : World) (h : InB w s bs) : Calls Try.prog 23 #[.agg #[.int .i64 v, s], .int .i64 pk] w (RV (.bool true) w) := by
  by_cases hl : bs.length ≤ 1048576
  · exact FnExactCountColourings_main v s bs pk _h1 w h hl
  · exact FnExactCountColourings_long v s bs pk w h hl
end Go.Proofs.Ytkpnlecmfmbkaaa

namespace Go.Proofs.Ytkpnlecmfmbkaaa
open Go.ChangeShapes Go.WideShapes Go.ChangeAt Go.RowKit Go.Deep Go.Joins
theorem ownKnobs : ownKnob Try.prog.godebug = none := by kernel_rfl
section
variable {H : Type} {enc : TypeId × Value → H} {W : World} {base : Nat} {held : Bool}
theorem arrCells : Try.prog.cellsOf 77 = 3 := by kernel_rfl
set_option maxRecDepth 100000 in
theorem open_arr3 {fuel : Nat} {cs : List Value} {x : DataW H × List MemPlace} (h : DataW.trod enc Try.prog W base (fun _ => true) held fuel 77 cs = some x) :
    ∃ a b c : Int, cs = [.int .i64 a, .int .i64 b, .int .i64 c] ∧ (Lit.int .i64 a).wf = true ∧ (Lit.int .i64 b).wf = true ∧ (Lit.int .i64 c).wf = true := by
  obtain ⟨xs, m, rfl, rfl, hl, hx, hat⟩ := DataW.trod_array Try.underlying77 h
  rw [arrCells] at hl
  match cs, hl with
  | [c0, c1, c2], _ =>
    match xs, hx with
    | [x0, x1, x2], _ =>
      have h0 := hat 0 (by omega)
      have h1 := hat 1 (by omega)
      have h2 := hat 2 (by omega)
      rw [int64Cells] at h0 h1 h2
      simp at h0 h1 h2
      obtain ⟨a, ha, _, wa⟩ := DataW.trod_int Try.underlying2 h0
      obtain ⟨b, hb, _, wb⟩ := DataW.trod_int Try.underlying2 h1
      obtain ⟨c, hc, _, wc⟩ := DataW.trod_int Try.underlying2 h2
      simp at ha hb hc
      exact ⟨a, b, c, by rw [ha, hb, hc], wa, wb, wc⟩
theorem add_at (b off i : Nat) : (⟨b, off, none⟩ : Addr).add i = ⟨b, off + i, none⟩ := by
  unfold Addr.add
  split
  · subst_vars; rfl
  · rfl
set_option maxRecDepth 100000 in
theorem open_arrs {fuel : Nat} {s : Value} {x : DataW H × List MemPlace} (h : DataW.trod enc Try.prog W base (fun _ => true) held fuel 22 [s] = some x) : ∃ bs, InB W s bs := by
  rcases open_slice Try.underlying22 h with ⟨hcs, _⟩ | ⟨a, len, cap, m, n, D, Pl, hcs, hb, hl, hm, hmm, hx, hi⟩
  · simp at hcs
    exact ⟨[], by simp, by simp, .inl ⟨none, 0, hcs, rfl⟩⟩
  · simp at hcs
    subst hcs
    simp at hmm
    subst hmm
    have hm' : m ≤ 9223372036854775807 := by unfold maxLen at hm; exact hm
    by_cases h0 : len = 0
    · subst h0
      exact ⟨[], by simp, by simp, .inl ⟨_, _, rfl, rfl⟩⟩
    · have cell : ∀ i, i < m → ∃ y : Blk, WFB y ∧ ∀ j (v : Value), [Value.int .i64 y.a, Value.int .i64 y.b, Value.int .i64 y.c][j]? = some v → W.cell? (a.add (i * 3 + j)) = some v := fun i him => by
        obtain ⟨cs', hc, ht⟩ := hi i him
        obtain ⟨p, q, r, rfl, wp, wq, wr⟩ := open_arr3 ht
        rw [arrCells] at hc
        obtain ⟨_, _, hat⟩ := World.cells?_some hc
        refine ⟨⟨p, q, r⟩, ⟨wp, wq, wr⟩, fun j v hv => ?_⟩
        have hj : j < 3 := by
          have := (List.getElem?_eq_some_iff.1 hv).1
          simpa using this
        rw [← Go.Deep.add_add, hat j hj]
        exact hv
      obtain ⟨F, hF⟩ := choose_lt (α := Blk) cell
      obtain ⟨b, off, spot⟩ := a
      have hc0 := (hF 0 (by omega)).2 0 _ rfl
      have hspot : spot = none := by simpa [Addr.add] using World.cell?_spot hc0
      subst hspot
      refine ⟨(List.range len).map F, ?_, by simp; omega, .inr ⟨b, off, m, by simp, ?_, ?_⟩⟩
      · intro y hy
        obtain ⟨i, hi', rfl⟩ := List.mem_map.1 hy
        exact (hF i (by have := List.mem_range.1 hi'; omega)).1
      · exact block_lt_of_cell hc0
      · intro k hk
        simp at hk
        have e : ((List.range len).map F)[k]?.getD default = F k := by simp [hk]
        rw [e]
        have := (hF k (by omega)).2
        refine ⟨?_, ?_, ?_⟩
        · have h0 := this 0 _ rfl
          rw [add_at] at h0
          exact h0
        · have h1 := this 1 _ rfl
          rw [add_at, ← Nat.add_assoc] at h1
          exact h1
        · have h2 := this 2 _ rfl
          rw [add_at, ← Nat.add_assoc] at h2
          exact h2
theorem isSys : ∃ f0 f1 : Field, Try.prog.underlying 24 = some (.struct #[f0, f1]) ∧ f0.type = 2 ∧ f1.type = 22 ∧ oneCellFields Try.prog #[f0, f1] = true :=
  ⟨_, _, Try.underlying24, rfl, rfl, by kernel_rfl⟩
theorem sysCells : Try.prog.cellsOf 24 = 2 := by kernel_rfl
set_option maxRecDepth 100000 in
theorem open_system {r : Reach} {b0 : Nat} {v : Value} {d : DataW H} {p : List MemPlace} (hv : Value.okWide Try.prog W r b0 24 v) (h : DataW.Trod enc Try.prog W base (fun _ => true) held 24 v d p) :
    ∃ (n : Int) (s : Value) (bs : List Blk), v = .agg #[.int .i64 n, s] ∧ WF n ∧ InB W s bs := by
  obtain ⟨f0, f1, hu, e0, e1, hone⟩ := isSys
  obtain ⟨v0, v1, y0, y1, n, rfl, _, _, h0, h1⟩ := open_agg2 hu hone sysCells hv h
  rw [e0] at h0
  rw [e1] at h1
  obtain ⟨k, hk, _, wk⟩ := DataW.trod_int Try.underlying2 h0
  simp at hk
  subst hk
  obtain ⟨bs, hbs⟩ := open_arrs h1
  exact ⟨k, v1, bs, rfl, wk, hbs⟩
end
end Go.Proofs.Ytkpnlecmfmbkaaa

namespace Go.Proofs.Ytkpnlecmfmbkaaa
set_option maxRecDepth 100000 in
noncomputable def iniP : { L : List Char // Try.prog.initOrder = String.ofList L } := ⟨_, by unfold Try.prog; rfl⟩
theorem iniL : Try.prog.initOrder.toList = iniP.1 := (congrArg String.toList iniP.2).trans String.toList_ofList
theorem words_cons (c : Char) (r : List Char) (h : c ≠ Char.ofNat 32) : wordsSigns (c :: r) = match wordsSigns r with | w :: ws => (c :: w) :: ws | [] => [[c]] := by
  rw [wordsSigns]
  all_goals first | rfl | exact h | (intro e; exact h e)
theorem words_word : ∀ (a b : List Char), (a.all fun c => c != Char.ofNat 32) = true → wordsSigns (a ++ Char.ofNat 32 :: b) = a :: wordsSigns b
  | [], b, _ => rfl
  | c :: a, b, h => by
    simp only [List.all_cons, Bool.and_eq_true, bne_iff_ne, ne_eq] at h
    rw [List.cons_append, words_cons _ _ h.1, words_word a b (by simpa using h.2)]
set_option maxRecDepth 100000 in
theorem split1 : iniP.1 = iniP.1.take 7 ++ Char.ofNat 32 :: iniP.1.drop 8 := by kernel_rfl
set_option maxRecDepth 100000 in
theorem split2 : iniP.1.drop 8 = (iniP.1.drop 8).take 64 ++ Char.ofNat 32 :: iniP.1.drop 73 := by kernel_rfl
set_option maxRecDepth 100000 in
theorem split3 : iniP.1.drop 73 = (iniP.1.drop 73).take 3 ++ Char.ofNat 32 :: iniP.1.drop 77 := by kernel_rfl
theorem isCut : (iniP.1.drop 73).take 3 = "cut".toList := by kernel_rfl
set_option maxRecDepth 100000 in
theorem isHead : ((iniP.1.take 7 == "harness".toList || iniP.1.take 7 == "ownmain".toList) && isSumSigns ((iniP.1.drop 8).take 64)) = true := by kernel_rfl
theorem wordsL : wordsSigns iniP.1 = iniP.1.take 7 :: (iniP.1.drop 8).take 64 :: "cut".toList :: wordsSigns (iniP.1.drop 77) := by
  rw [← isCut]
  conv => lhs; rw [split1]
  rw [words_word _ _ (by kernel_rfl)]
  conv => lhs; rw [split2]
  rw [words_word _ _ (by kernel_rfl)]
  conv => lhs; rw [split3]
  rw [words_word _ _ (by kernel_rfl)]
theorem behindL : behindMainWord (wordsSigns Try.prog.initOrder.toList) = "cut".toList :: wordsSigns (iniP.1.drop 77) := by
  rw [iniL, wordsL]
  unfold behindMainWord
  simp only [isHead, if_true]
theorem stripL (ws : List (List Char)) : stripLifts liftWords ("cut".toList :: ws) = ([], "cut".toList :: ws) := by kernel_rfl
section
variable (P : Program) (ws : List (List Char)) (h : behindMainWord (wordsSigns P.initOrder.toList) = "cut".toList :: ws)
include h
theorem head_of : P.headLifts = [] := by
  unfold Program.headLifts
  rw [h]
  simp only [stripL]
  kernel_rfl
theorem make_of : P.make = some .cut := by
  unfold Program.make
  rw [h, head_of P ws h]
  kernel_rfl
theorem lifts_of : P.liftsFinal = false := by
  unfold Program.liftsFinal
  rw [h, head_of P ws h]
  kernel_rfl
theorem enter_of (h1 : P.laysLater = false) (h2 : P.bearsReflect = false) (h3 : P.doorFits [] = true) : P.mayEnter = true := by
  unfold Program.mayEnter
  rw [h]
  simp only [stripL]
  rw [h1, h2, h3]
  kernel_rfl
end
theorem mayE : Try.pinned.checked.prog.mayEnter = true := enter_of _ _ behindL (by kernel_rfl) (by kernel_rfl) (by kernel_rfl)
theorem liftsF : Try.pinned.checked.prog.liftsFinal = false := lifts_of _ _ behindL
theorem makeF : Try.pinned.checked.prog.make = some .cut := make_of _ _ behindL
theorem both {a b : Bool} (h : a = true) (k : b = true) : (a && b) = true := by rw [h, k]; rfl
end Go.Proofs.Ytkpnlecmfmbkaaa

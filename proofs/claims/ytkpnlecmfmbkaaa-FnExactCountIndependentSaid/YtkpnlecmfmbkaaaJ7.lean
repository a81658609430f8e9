
/- BlocksAt: the program and the model answer alike. impl.placesOf: the places of a block's points in a list. SpanOf of the program. The sets of k points that pass a test: their number. CountIndependent of the model. CountIndependent of the model, whole. CountIndependent of the program, whole. The law FnExactCountIndependent returns true. How the laws' arguments are read. -/
import Derived.Test.YtkpnlecmfmbkaaaJ6
import Derived.Deep.Cut
import Derived.Deep.RegionWith
import Derived.Test.YtkpnlecmfmbkaaaRows
import Derived.ProofKit
import Derived.OpenShut
import Derived.Deep.Slices
import Derived.Lib.SmallJoins
import Derived.ChangeOld
namespace Go.Proofs.Ytkpnlecmfmbkaaa
open Go.RowKit Go.Maps
/-- The indices of the blocks through p, and the code. -/
def atF (v : Int) (bs : List Blk) (p : Int) : List Int × Int := if isSysImpl v bs then (if inP v p then (idxI p bs bs.length, 0) else ([], 2)) else ([], 1)
def RJ (r : List Int × Int) (w : World) (e : Ending) (w' : World) : Prop := ∃ u, e = .returned (.tuple #[u, .int .i64 r.2]) ∧ OwnJ w' w.heap.size u r.1 ∧ Below w.heap.size w w'
theorem OwnJ.nil (w : World) (base : Nat) : OwnJ w base (.slice none 0 0) [] := ⟨rfl, .inl ⟨rfl, rfl⟩⟩
theorem idxs_eq (p : Int) (bs : List Blk) : idxs (upTo p bs bs.length) = (idxI p bs bs.length).map (Value.int .i64) := by
  unfold idxs idxI
  rw [List.map_map]
  rfl
theorem ints1 {w : World} {b : Nat} {x : Int} (h0 : w.cell? ⟨b, 0, none⟩ = some (.int .i64 x)) : Ints w b 0 [x] := by
  intro k hk
  match k, hk with
  | 0, _ => simpa using h0
end Go.Proofs.Ytkpnlecmfmbkaaa

namespace Go.Proofs.Ytkpnlecmfmbkaaa
open Go.RowKit Go.Maps
def plO (pts : List Int) (z : Int) : List Int := if 0 ≤ place pts z then [place pts z] else []
def plK (pts : List Int) (x : Blk) : Nat → List Int
  | 0 => []
  | 1 => plO pts x.a
  | 2 => plO pts x.a ++ plO pts x.b
  | _ => plO pts x.a ++ plO pts x.b ++ plO pts x.c
theorem plO_len (pts : List Int) (z : Int) : (plO pts z).length ≤ 1 := by unfold plO; split <;> simp
theorem plK_len (pts : List Int) (x : Blk) (k : Nat) : (plK pts x k).length ≤ 3 := by
  have h1 := plO_len pts x.a
  have h2 := plO_len pts x.b
  have h3 := plO_len pts x.c
  unfold plK
  split <;> simp [List.length_append] <;> omega
theorem OwnJ.nil0 (W : World) (base : Nat) : OwnJ W base (.slice none 0 0) [] := ⟨rfl, .inl ⟨rfl, rfl⟩⟩
theorem OwnJ.formS {W : World} {base : Nat} {u : Value} {zs : List Int} (h : OwnJ W base u zs) : ∃ a c, u = .slice a zs.length c := by
  rcases h.2 with ⟨rfl, h0⟩ | ⟨g, cap, _, rfl, _⟩
  · exact ⟨_, _, by rw [h0]⟩
  · exact ⟨_, _, rfl⟩
end Go.Proofs.Ytkpnlecmfmbkaaa

namespace Go.Proofs.Ytkpnlecmfmbkaaa
open Go.RowKit Go.Maps Go.Shelf
set_option maxRecDepth 100000 in
set_option maxHeartbeats 1000000 in
theorem span_any (s : Value) (bs : List Blk) (zs : List Int) (w : World) (h : UB w s (mbs bs)) (hok : ∀ x ∈ bs, okB x) (hz : ∀ z ∈ zs, 0 ≤ z ∧ z < 15) :
    Calls Try.prog 114 #[s, .int .u16 (mskR zs)] w (fun e w' => ∃ L, e = .returned (.int .u16 (mskR L)) ∧ Spn bs zs L ∧ closedL bs L = true ∧ Below w.heap.size w w') := by
  have hs := h.form
  have hl := h.1
  rw [mbs_len] at hs hl
  have H := Lib.hid h
  have HOK := Lib.hid hok
  have HST := Lib.hid (Spn.start (bs := bs) hz)
  have HML := Lib.hid fun (x : Blk) (hx : okB x) => mskR_lt (okB_small hx)
  clear h hok hz
  obtain ⟨a0, c0, rfl⟩ := hs
  go_enter Try.func114, Try.ntmps114
  go_wp2
  go_loopw [1] (fun m wr => ∃ L : List Int, m = .int .u16 (mskR L) ∧ Hid (Spn bs zs L) ∧ Below w.heap.size w wr) (fun m _ => 15 - pc (intOf m).toNat)
  case atStart => exact ⟨zs, rfl, HST, Below.refl _ _⟩
  case round =>
    obtain ⟨L, rfl, HL, hB⟩ := hrel
    have HC := Lib.hid (isClosed_any _ bs L wr (H.out.below hB (Nat.le_refl _)) HOK.out HL.out.ok)
    cases hcl : closedL bs L with
    | true =>
      rw [hcl] at HC
      have HCL := Lib.hid hcl
      clear hcl
      obtain ⟨m, hm⟩ : ∃ m, m = mskR L := ⟨_, rfl⟩
      have HM := Lib.hid hm
      rw [← hm] at HC ⊢
      clear hm
      go_wp2_with fail
      refine HC.out.mono ?_
      rintro e w1 ⟨rfl, hb1⟩
      have hB1 := hB.trans (hb1.mono hB.size)
      go_wp2
      go_ret
      exact ⟨L, by rw [HM.out]; rfl, HL.out, HCL.out, hB1⟩
    | false =>
      rw [hcl] at HC
      have HCL := Lib.hid hcl
      clear hcl
      obtain ⟨m, hm⟩ : ∃ m, m = mskR L := ⟨_, rfl⟩
      have HM := Lib.hid hm
      rw [← hm] at HC ⊢
      have hm15 := pc_le m
      clear hm
      go_wp2_with fail
      refine HC.out.mono ?_
      rintro e w1 ⟨rfl, hb1⟩
      have hB1 := hB.trans (hb1.mono hB.size)
      clear hb1 HC
      go_wp2_with fail
      go_loopw [1, 13] (fun m i w3 => ∃ (k : Nat) (M : List Int), k ≤ bs.length ∧ i = .int .i64 k ∧ m = .int .u16 (mskR M) ∧ Hid (Spn bs zs M) ∧ Below w.heap.size w w3 ∧ Hid ((M = L ∧ closedL (bs.take k) L = true) ∨ pc (mskR L) < pc (mskR M))) (fun _ i _ => bs.length - (intOf i).toNat)
      case atStart => exact ⟨0, L, Nat.zero_le _, rfl, by rw [HM.out], HL, hB1, Lib.hid (.inl ⟨rfl, rfl⟩)⟩
      case round =>
        obtain ⟨k, M, hk, rfl, rfl, HMM, hB3, HG⟩ := hrel
        by_cases hkl : k < bs.length
        · rcases H.out.2 with ⟨_, _, _, hnil⟩ | ⟨bb, off, cap, hval, hblt, hbl⟩
          · exfalso; rw [← mbs_len, hnil] at hkl; simp at hkl
          rw [mbs_len] at hval
          simp at hval
          obtain ⟨rfl, rfl⟩ := hval
          have x1 := (hB3.cell (p := ⟨bb, off + k, none⟩) hblt).trans (hbl k (by rw [mbs_len]; exact hkl))
          rw [mbs_at hkl] at x1
          have HT := Lib.hid (closedL_take (L := L) hkl)
          have hokx := HOK.out (bs[k]?.getD default) (by simp [hkl])
          have hxm : bs[k]?.getD default ∈ bs := by simp [hkl]
          obtain ⟨x, hx⟩ : ∃ x, x = bs[k]?.getD default := ⟨_, rfl⟩
          rw [← hx] at x1 HT hokx hxm
          have hpc := pc_R hokx HMM.out.ok
          have hmx := HML.out x hokx
          have hml := mskR_lt HMM.out.ok
          have HGR := Lib.hid fun h2 => grow_R hokx HMM.out.ok h2
          have HSS := Lib.hid fun h2 => HMM.out.step hxm hokx h2
          have HAP := Lib.hid (mskR_append M (ptsB x))
          obtain ⟨y, hy⟩ : ∃ y, y = mskR (ptsB x) := ⟨_, rfl⟩
          rw [← hy] at x1 hpc hmx HAP
          obtain ⟨u, hu⟩ : ∃ u, u = mskR M := ⟨_, rfl⟩
          have HU := Lib.hid hu
          rw [← hu] at hpc hml HAP ⊢
          have q1 := (bits16 hmx hml).1
          have q3 := (bits16 hml hmx).2
          have q2 := and_lt15 (x := y) hml
          obtain ⟨r, hr⟩ : ∃ r, r = y &&& u := ⟨_, rfl⟩
          rw [← hr] at q1 q2 hpc
          obtain ⟨o, ho⟩ : ∃ o, o = u ||| y := ⟨_, rfl⟩
          rw [← ho] at q3 HAP
          have HSZ := Lib.hid fun W => size_any r q2 W
          obtain ⟨p, hp⟩ : ∃ p, p = cntB x M := ⟨_, rfl⟩
          rw [hpc, ← hp] at HSZ
          rw [← hp] at HGR HSS
          have HP := Lib.hid hp
          have g0 : (0 : Int) ≤ (k : Int) := by omega
          have g1 : (k : Int) < (bs.length : Int) := by omega
          clear hbl hx hokx hxm hy hr ho hp hpc hu
          by_cases e : p = 2
          · have HG2 := Lib.hid (show pc (mskR L) < pc (mskR (M ++ ptsB x)) by
              rcases HG.out with ⟨rfl, _⟩ | h
              · exact HGR.out e
              · exact Nat.lt_trans h (HGR.out e))
            have HS2 := Lib.hid (HSS.out e)
            subst e
            clear HT HG HGR HSS HP
            go_wp2_with fail
            refine (HSZ.out _).mono ?_
            rintro e w4 ⟨rfl, hb4⟩
            have hB4 := hB3.trans (hb4.mono hB3.size)
            clear hb4
            go_wp2
            go_roundw
            case rel => exact ⟨k + 1, M ++ ptsB x, by omega, by go_num, by rw [HAP.out], HS2, hB4, Lib.hid (.inr HG2.out)⟩
            case measure => simp [intOf]; omega
          · have HG2 := Lib.hid (show (M = L ∧ closedL (bs.take (k + 1)) L = true) ∨ pc (mskR L) < pc (mskR M) by
              rcases HG.out with ⟨rfl, h⟩ | h
              · exact .inl ⟨rfl, by rw [HT.out, h, ← HP.out]; simp [e]⟩
              · exact .inr h)
            have ed : decide ((p : Int) = 2) = false := by simp; omega
            have ed2 : ((p : Int) == 2) = false := by simp; omega
            clear HT HG HGR HSS HP e
            go_wp2_with fail
            refine (HSZ.out _).mono ?_
            rintro e w4 ⟨rfl, hb4⟩
            have hB4 := hB3.trans (hb4.mono hB3.size)
            clear hb4
            go_wp2
            go_roundw
            case rel => exact ⟨k + 1, M, by omega, by go_num, by rw [HU.out], HMM, hB4, HG2⟩
            case measure => simp [intOf]; omega
        · have e : k = bs.length := by omega
          have HGG := Lib.hid (show pc (mskR L) < pc (mskR M) by
            rcases HG.out with ⟨rfl, h⟩ | h
            · rw [e, List.take_length, HCL.out] at h; simp at h
            · exact h)
          clear e HG
          have hlt : pc m < pc (mskR M) := by rw [HM.out]; exact HGG.out
          have hM15 := pc_le (mskR M)
          go_wp2
          go_roundw
          case rel => exact ⟨M, rfl, HMM, hB3⟩
          case measure => simp [intOf]; omega
theorem rev_bit {L : List Int} (h : ∀ a ∈ L, 0 ≤ a ∧ a < 15) {k : Nat} (hk : k < 15) : (bits .and .u16 (mskR L : Int) (mskR [(k : Int)] : Int) != 0) = decide ((k : Int) ∈ L) := by
  have h1 : ∀ a ∈ [(k : Int)], 0 ≤ a ∧ a < 15 := fun a ha => by simp at ha; omega
  rw [(bits16 (mskR_lt h) (mskR_lt h1)).1, and_R h h1, Bool.eq_iff_iff, bne_iff_ne, decide_eq_true_eq]
  have hf : ∀ a ∈ L.filter (fun a => decide (a ∈ [(k : Int)])), 0 ≤ a ∧ a < 15 := filt_in h
  constructor
  · intro hne
    apply Classical.byContradiction
    intro hn
    apply hne
    rw [List.filter_eq_nil_iff.2 (fun a ha hq => by simp at hq; exact hn (hq ▸ ha))]
    rfl
  · intro hm e0
    have : (mskR (L.filter (fun a => decide (a ∈ [(k : Int)])))).testBit (14 - (k : Int)).toNat = true := by
      rw [mskR_mem hf (by omega) (by omega)]
      simpa using hm
    rw [show mskR (L.filter (fun a => decide (a ∈ [(k : Int)]))) = 0 by omega] at this
    simp at this
set_option maxRecDepth 100000 in
set_option maxHeartbeats 1000000 in
theorem list_any (L : List Int) (w : World) (hL : ∀ a ∈ L, 0 ≤ a ∧ a < 15) : Calls Try.prog 115 #[.int .u16 (mskR L)] w (fun e w' => ∃ u, e = .returned u ∧ OwnJ w' w.heap.size u (ptL (fun a => decide (a ∈ L)) 15) ∧ Below w.heap.size w w') := by
  have HR := Lib.hid fun (k : Nat) (hk : k < 15) => rev_bit hL hk
  have HS := Lib.hid fun (k : Nat) => ptL_succ (fun a => decide (a ∈ L)) k
  have HLN := Lib.hid fun (k : Nat) => ptL_len (fun a => decide (a ∈ L)) k
  obtain ⟨P, hP⟩ : ∃ P, P = ptL (fun a => decide (a ∈ L)) := ⟨_, rfl⟩
  rw [← hP] at HS HLN ⊢
  obtain ⟨m, hm⟩ : ∃ m, m = mskR L := ⟨_, rfl⟩
  rw [← hm] at HR ⊢
  have HP0 := Lib.hid (show P 0 = [] by rw [hP]; rfl)
  clear hm hP hL
  go_enter Try.func115, Try.ntmps115
  go_wp2
  go_loopw [3, 5] (fun o t wr => ∃ k : Nat, k ≤ 15 ∧ t = .int .i64 k ∧ Below w.heap.size w wr ∧ OwnJ wr w.heap.size o (P k)) (fun _ t _ => 15 - (intOf t).toNat)
  case atStart => exact ⟨0, Nat.zero_le _, rfl, Below.refl _ _, by rw [HP0.out]; exact OwnJ.nil _ _⟩
  case round =>
    obtain ⟨k, hk, rfl, hB, hO⟩ := hrel
    have hz := hB.size
    obtain ⟨a5, c5, hs5⟩ := hO.formS
    by_cases hkl : k < 15
    · have hr := HR.out k hkl
      have hs := HS.out k
      have hln : (P k).length ≤ 1100000 := by have := HLN.out k; omega
      obtain ⟨Q, hQ⟩ : ∃ Q, Q = P k := ⟨_, rfl⟩
      rw [← hQ] at hs hO hs5 hln
      subst hs5
      have HO := Lib.hid hO
      have HSP := Lib.hid fun W (hc : W.cell? ⟨wr.heap.size, 0, none⟩ = some (.int .i64 (k : Int))) (hlt : wr.heap.size < W.heap.size) => setOfPoints_any (.slice (some ⟨wr.heap.size, 0, none⟩) 1 1) [(k : Int)] W ⟨by simp, .inr ⟨wr.heap.size, 0, 1, rfl, hlt, fun j hj => by
        simp at hj
        subst hj
        exact hc⟩⟩ (fun a ha => by simp at ha; omega)
      obtain ⟨y, hy⟩ : ∃ y, y = mskR [(k : Int)] := ⟨_, rfl⟩
      rw [← hy] at hr HSP
      have kd : decide ((k : Int) < 15) = true := by simp; omega
      clear hO hQ hy
      obtain ⟨β, hβ⟩ : ∃ β, β = decide ((k : Int) ∈ L) := ⟨_, rfl⟩
      rw [← hβ] at hr hs
      clear hβ
      cases β with
      | true =>
        have HS2 := Lib.hid (show P (k + 1) = Q ++ [(k : Int)] by rw [hs]; rfl)
        clear hs
        go_wp2_with fail
        obtain ⟨wa, hwa⟩ : ∃ wa, wa = wr.alloc (.cells #[.int .i64 (k : Int)] 2) := ⟨_, rfl⟩
        have ha0 : wa.cell? ⟨wr.heap.size, 0, none⟩ = some (.int .i64 (k : Int)) := by rw [hwa]; simp
        have hza : wr.heap.size < wa.heap.size := by rw [hwa]; simp
        have hBa : Below wr.heap.size wr wa := by rw [hwa]; exact (Below.refl _ _).alloc (Nat.le_refl _) _
        rw [← hwa]
        clear hwa
        have HC := Lib.hid (HSP.out wa ha0 hza)
        have HO1 := Lib.hid (HO.out.below hBa (Nat.le_refl _))
        have HB1 := Lib.hid (hB.trans (hBa.mono hz))
        have hz1 : w.heap.size ≤ wa.heap.size := by omega
        clear HSP HO ha0 hBa hza
        refine HC.out.mono ?_
        rintro e w1 ⟨rfl, rfl⟩
        go_wp2_with (at_builtin; refine wpList_append_int rfl _ _ rfl w.heap.size (.slice a5 Q.length c5) Q rfl (by exact HO1.out.below ((Below.refl _ _).alloc (Nat.le_refl _) _) (Nat.le_refl _)) _ _ (k : Int) rfl (by simp [go_sem]) hln (by simp; omega) ?_; intro g cap w4 hO4 hg4)
        have hB4 := (HB1.out.alloc hz1 _).grown hg4 (by simp; omega) (fun r e => HO1.out.row r e)
        go_roundw
        case rel => exact ⟨k + 1, by omega, by go_num, hB4, by rw [HS2.out]; exact hO4⟩
        case measure => simp [intOf]; omega
      | false =>
        have HS2 := Lib.hid (show P (k + 1) = Q by rw [hs]; simp)
        clear hs
        go_wp2_with fail
        obtain ⟨wa, hwa⟩ : ∃ wa, wa = wr.alloc (.cells #[.int .i64 (k : Int)] 2) := ⟨_, rfl⟩
        have ha0 : wa.cell? ⟨wr.heap.size, 0, none⟩ = some (.int .i64 (k : Int)) := by rw [hwa]; simp
        have hza : wr.heap.size < wa.heap.size := by rw [hwa]; simp
        have hBa : Below wr.heap.size wr wa := by rw [hwa]; exact (Below.refl _ _).alloc (Nat.le_refl _) _
        rw [← hwa]
        clear hwa
        have HC := Lib.hid (HSP.out wa ha0 hza)
        have HO1 := Lib.hid (HO.out.below hBa (Nat.le_refl _))
        have HB1 := Lib.hid (hB.trans (hBa.mono hz))
        clear HSP HO ha0 hBa hza
        refine HC.out.mono ?_
        rintro e w1 ⟨rfl, rfl⟩
        go_wp2
        go_roundw
        case rel => exact ⟨k + 1, by omega, by go_num, HB1.out, by rw [HS2.out]; exact HO1.out⟩
        case measure => simp [intOf]; omega
    · obtain rfl : k = 15 := by omega
      have HO := Lib.hid hO
      clear hO
      subst hs5
      go_wp2
      go_ret
      exact ⟨_, rfl, HO.out, hB⟩
end Go.Proofs.Ytkpnlecmfmbkaaa

namespace Go.Proofs.Ytkpnlecmfmbkaaa
open Go.RowKit Go.Maps Go.Shelf
theorem infoRowC : (Try.prog.info? 27).map (fun i => (i.zero, i.size, i.bytes)) = some (some (.slice none 0 0), 1, 24) := by kernel_rfl
/-- The value owns a slice of just these headers. -/
def RowsC (w : World) (base : Nat) (u : Value) (hs : List Value) : Prop := w.ownsRow base 27 1 u hs.length hs
theorem RowsC.below {w w' : World} {base : Nat} {v : Value} {hs : List Value} (h : RowsC w base v hs) {B : Nat} (hb : Below B w w') (hB : w.heap.size ≤ B) : RowsC w' base v hs := by
  obtain ⟨hl, h | ⟨g, cap, cur, rfl, hb', hcur, hrest⟩⟩ := h
  · exact ⟨hl, .inl h⟩
  · exact ⟨hl, .inr ⟨g, cap, cur, rfl, hb', (hb.block g (Nat.lt_of_lt_of_le (Array.getElem?_eq_some_iff.1 hcur).1 hB)).trans hcur, hrest⟩⟩
theorem RowsC.form {W : World} {base : Nat} {u : Value} {hs : List Value} (h : RowsC W base u hs) : ∃ a c, u = .slice a hs.length c := by
  rcases h.2 with ⟨rfl, h0⟩ | ⟨g, cap, _, rfl, _⟩
  · exact ⟨_, _, by rw [h0]⟩
  · exact ⟨_, _, rfl⟩
theorem RowsC.row {w : World} {base : Nat} {v : Value} {hs : List Value} (h : RowsC w base v hs) : ∀ r, v.ownBlock = some r → base ≤ r := fun r hr => by
  obtain ⟨hl, h | ⟨g, cap, cur, rfl, hb', hcur, hrest⟩⟩ := h
  · rw [h.1] at hr; simp [Value.ownBlock] at hr
  · obtain rfl : g = r := by simpa [Value.ownBlock] using hr
    exact hb'
theorem wpList_append_hdrC {w : World} {ops : Array Oper} {rest : List Oper} {o : Oper} {a : Act} {Q : Exit → Act → World → Prop} (hgd : o.guard = none) (s x : Operand)
    (ho : o.op = .call { callee := .builtin .append, args := #[s, x], argTypes := #[26, 26] })
    (base : Nat) (v : Value) (hs : List Value) (n : Nat) (hln : hs.length = n) (hsv : a.eval s = v) (hown : RowsC w base v hs) (b0 c : Nat) (hx : a.eval x = .slice (some ⟨b0, 0, none⟩) 1 c) (p : Option Addr) (n0 c0 : Nat)
    (c1 : w.cell? ⟨b0, 0, none⟩ = some (.slice p n0 c0)) (hl : n ≤ 1100000) (hbase : base ≤ w.heap.size)
    (h : ∀ (G cap : Nat) (w' : World), RowsC w' base (.slice (some ⟨G, 0, none⟩) (n + 1) cap) (hs ++ [.slice p n0 c0]) → w.grownBy w' v.ownBlock → wpList Try.prog ops Q rest (a.put o.dst (.slice (some ⟨G, 0, none⟩) (n + 1) cap)) w') : wpList Try.prog ops Q (o :: rest) a w := by
  subst hln
  obtain ⟨i0, hi, hz0, hz1, hz2⟩ := info_parts infoRowC
  refine wpList_append_own w hgd s x 26 ho base 27 i0 _ 1 24 Try.underlying26 hi hz0 hz1 hz2 rfl (by decide) v hs.length _ hsv hown ⟨b0, 0, none⟩ 1 c [.slice p n0 c0] hx rfl ?_ ?_ (by unfold maxLen; omega) (by omega) hbase ?_
  · intro j u hj
    rw [addr_at, Nat.zero_add]
    match j, hj with
    | 0, hj => simp at hj; rw [← hj]; exact c1
    | j + 1, hj => simp at hj
  · intro u hu
    simp at hu
    rw [hu]
    rfl
  · intro v' w' hown' hg _
    obtain ⟨G, cap, rfl⟩ := row_some hown'
    refine h G cap w' ?_ hg
    unfold RowsC
    rw [List.length_append]
    exact hown'
theorem u16_small {M : Nat} (h : M < 32768) : IntKind.u16.wrap (M : Int) = (M : Int) := IntWalk.u16_in _ (by omega)
theorem w64_small {M : Nat} (h : M < 32768) : wrap64 (M : Int) = (M : Int) := by unfold wrap64; omega
theorem pow15 {n : Nat} (h : n ≤ 15) : 2 ^ n ≤ 32768 := Nat.le_trans (Nat.pow_le_pow_right (by omega) h) (by decide)
set_option maxRecDepth 100000 in
set_option maxHeartbeats 8000000 in
theorem setsOfSize_any (n k : Nat) (bs : List Blk) (t : Value) (w : World) (ht : UB w t (mbs bs)) (hok : ∀ x ∈ bs, okB x) (hn : n ≤ 15) (_hk : k ≤ 15) :
    Calls Try.prog 127 #[.int .i64 (n : Int), .int .i64 (k : Int), .func (.func 123) #[t] #[]] w (fun e w' => ∃ a c, e = .returned (.slice a (cdn (goodI bs [] 0 n k) (2 ^ n)) c) ∧ Below w.heap.size w w') := by
  have hp := pow15 hn
  have HSZ := Lib.hid fun (j : Nat) W (hj : j < 2 ^ n) => (show Calls Try.prog 183 #[.int .u16 (mskR (subL 0 n j) : Nat)] W (RV (.int .i64 ((subL 0 n j).length : Nat)) W) by
    have h1 := size_any (mskR (subL 0 n j)) (mskR_lt fun z hz => by have := subL_in n 0 j (by omega) z hz; omega) W
    rwa [subL_pc n 0 j (by omega)] at h1)
  have HIN := Lib.hid fun (j : Nat) W (hb : Below w.heap.size w W) => isIndependent_any t bs (subL 0 n j) W (ht.below hb (Nat.le_refl _)) hok (fun z hz => by have := subL_in n 0 j (by omega) z hz; omega)
  have HLS := Lib.hid fun (j : Nat) W => list_any (subL 0 n j) W (fun z hz => by have := subL_in n 0 j (by omega) z hz; omega)
  have HMS := Lib.hid fun (j : Nat) (hj : j < 2 ^ n) => subL_msk n 0 j (by omega) hj
  obtain ⟨N, hN⟩ : ∃ N, N = 2 ^ n := ⟨_, rfl⟩
  rw [← hN] at hp HSZ HMS ⊢
  have hN1 : 1 ≤ N := by rw [hN]; exact Nat.one_le_two_pow
  have HN := Lib.hid hN
  have hNi : (2 : Int) ^ n = (N : Int) := by rw [hN]; simp
  obtain ⟨f, hf⟩ : ∃ f, f = goodI bs [] 0 n k := ⟨_, rfl⟩
  have HF := Lib.hid hf
  rw [← hf]
  obtain ⟨a0, c0, rfl⟩ := ht.form
  have n1 : (n : Int) ≤ 64 := by omega
  clear hok ht hN hf
  go_enter Try.func127, Try.ntmps127
  go_upto_region 3 with fail
  go_loopw [7, 8] (fun l i wr => ∃ (z : Int) (A : Nat) (hs : List Value) (a : Option Addr) (c : Nat), -1 ≤ z ∧ z < (N : Int) ∧ i = .int .i64 z ∧ l = .slice a A c ∧ A ≤ 32768 ∧ Below w.heap.size w wr ∧ Hid (RowsC wr w.heap.size (.slice a A c) hs) ∧ Hid (hs.length = A) ∧ Hid (cdn f N = A + cdn f (z + 1).toNat)) (fun _ i _ => (intOf i + 1).toNat)
  case atStart => exact ⟨(N : Int) - 1, 0, [], none, 0, by omega, by omega, rfl, rfl, by omega, Below.refl _ _, Lib.hid ⟨rfl, .inl ⟨rfl, rfl⟩⟩, Lib.hid rfl, Lib.hid (by rw [Nat.zero_add]; congr 1; omega)⟩
  case round =>
    obtain ⟨z, A, hs, a, c, hz1, hz2, rfl, rfl, hA, hB, HO, HL, HR⟩ := hrel
    have hz := hB.size
    by_cases h0 : 0 ≤ z
    · obtain ⟨q, rfl⟩ : ∃ q : Nat, z = q := ⟨z.toNat, by omega⟩
      have hqN : q < N := by omega
      have t1 : decide ((0 : Int) ≤ (q : Int)) = true := by simp
      have HST := Lib.hid (show cdn f N = A + ((if f q then 1 else 0) + cdn f ((q : Int) - 1 + 1).toNat) by
        rw [HR.out, show ((q : Int) + 1).toNat = q + 1 by omega, show ((q : Int) - 1 + 1).toNat = q by omega]
        rfl)
      have hcl := cdn_le f N
      have hfq : f q = (decide ((subL 0 n q).length = k) && indepL bs (subL 0 n q)) := by rw [HF.out]; unfold goodI; rw [List.nil_append]
      have hM := HMS.out q hqN
      have hMl : mskR (subL 0 n q) < 32768 := mskR_lt fun z hz => by have := subL_in n 0 q (by omega) z hz; omega
      have HS1 := Lib.hid fun W => HSZ.out q W hqN
      have HI1 := Lib.hid fun W hb => HIN.out q W hb
      have HL1 := Lib.hid fun W => HLS.out q W
      obtain ⟨M, hMM⟩ : ∃ M, M = mskR (subL 0 n q) := ⟨_, rfl⟩
      obtain ⟨Z, hZ⟩ : ∃ Z, Z = (subL 0 n q).length := ⟨_, rfl⟩
      rw [← hMM] at hM hMl HS1 HI1 HL1
      rw [← hZ] at HS1 hfq
      have hsh : (q : Int) * 2 ^ (15 - n) = (M : Int) := by
        rw [hM, Nat.zero_add]
        simp
      have hw64 : wrap64 (M : Int) = (M : Int) := w64_small hMl
      have HWa := Lib.hid (show wrap64 ((q : Int) * 2 ^ (15 - n)) = (M : Int) by rw [hsh]; exact hw64)
      have HWb := Lib.hid (show IntKind.u16.wrap (M : Int) = (M : Int) from u16_small hMl)
      have hcl2 : cdn f N ≤ 32768 := Nat.le_trans hcl hp
      clear hMM hZ hM hsh hw64
      have hqz : ((q : Int) - 1 + 1).toNat = q := by omega
      have HQZ := Lib.hid hqz
      clear hqz
      have HNB := Lib.hid hcl2
      clear hcl2 hcl
      go_upto_region 6 with fail
      rw [HWa.out, HWb.out]
      by_cases hZk : Z = k
      · have t2 : ((Z : Int) == (k : Int)) = true := by simp; omega
        have HFQ := Lib.hid (show f q = indepL bs (subL 0 n q) by rw [hfq, hZk]; simp)
        clear hZk hfq
        go_wp2_with fail
        refine (HS1.out _).mono ?_
        rintro e w3 ⟨rfl, hb3⟩
        have hB3 := hB.trans (hb3.mono hz)
        have HO3 := Lib.hid (HO.out.below hb3 (Nat.le_refl _))
        have hz3 := hb3.size
        clear hb3
        have HI2 := Lib.hid (HI1.out w3 hB3)
        cases hg : indepL bs (subL 0 n q) with
        | false =>
          rw [hg] at HI2 HFQ
          have HN := Lib.hid (show cdn f N = A + cdn f ((q : Int) - 1 + 1).toNat by rw [HST.out, HFQ.out]; simp)
          clear hg
          go_wp2_with fail
          refine HI2.out.mono ?_
          rintro e w4 ⟨rfl, hb4⟩
          have hB4 := hB3.trans (hb4.mono (by omega))
          have HO4 := Lib.hid (HO3.out.below hb4 (Nat.le_refl _))
          clear hb4
          go_wp2
          go_roundw
          case rel => exact ⟨(q : Int) - 1, A, hs, a, c, by omega, by omega, rfl, rfl, hA, hB4, HO4, HL, HN⟩
          case measure => first | (simp [intOf]; done) | (simp [intOf]; omega)
        | true =>
          rw [hg] at HI2 HFQ
          have HN := Lib.hid (show cdn f N = (A + 1) + cdn f ((q : Int) - 1 + 1).toNat by rw [HST.out, HFQ.out, if_pos rfl]; omega)
          have hA1 : A + 1 ≤ 32768 := by have := HNB.out; have := HN.out; omega
          clear hg
          go_wp2_with fail
          refine HI2.out.mono ?_
          rintro e w4 ⟨rfl, hb4⟩
          have hB4 := hB3.trans (hb4.mono (by omega))
          have HO4 := Lib.hid (HO3.out.below hb4 (Nat.le_refl _))
          have hz4 := hb4.size
          clear hb4
          go_wp2_with fail
          refine (HL1.out _).mono ?_
          rintro e w5 ⟨u, rfl, hOu, hb5⟩
          obtain ⟨a6, c6, rfl⟩ := OwnJ.formS hOu
          have hB5 := hB4.trans (hb5.mono (by omega))
          have HO5 := Lib.hid (HO4.out.below hb5 (Nat.le_refl _))
          have hz5 := hb5.size
          clear hb5 hOu
          obtain ⟨len, hlen⟩ : ∃ len, len = (ptL (fun a => decide (a ∈ subL 0 n q)) 15).length := ⟨_, rfl⟩
          rw [← hlen]
          clear hlen
          go_upto_region 4 with (at_builtin; refine wpList_append_hdrC rfl _ _ rfl w.heap.size (.slice a A c) hs A HL.out rfl (by exact HO5.out.below ((Below.refl _ _).alloc (Nat.le_refl _) _) (Nat.le_refl _)) _ _ rfl a6 len c6 (by simp [go_sem]) (by omega) (by simp; omega) ?_; intro G cap w6 hO6 hg6)
          have hB6 := (hB5.alloc (by omega) _).grown hg6 (by simp; omega) (fun r e => HO5.out.row r e)
          have HO6 := Lib.hid hO6
          have HL6 := Lib.hid (show (hs ++ [Value.slice a6 len c6]).length = A + 1 by rw [List.length_append, HL.out]; rfl)
          clear hO6 hg6
          go_wp2
          go_roundw
          case rel => first
            | exact ⟨(q : Int) - 1, A + 1, hs ++ [Value.slice a6 len c6], some ⟨G, 0, none⟩, cap, by omega, by omega, rfl, rfl, hA1, hB6, HO6, HL6, HN⟩
            | ((repeat apply Exists.intro); exact ⟨⟨(q : Int) - 1, A + 1, hs ++ [Value.slice a6 len c6], some ⟨G, 0, none⟩, cap, by omega, by omega, rfl, rfl, hA1, hB6, HO6, HL6, HN⟩, rfl⟩)
          case measure => first | (simp [intOf]; done) | (simp [intOf]; omega)
      · have t2 : ((Z : Int) == (k : Int)) = false := by simp; omega
        have HN := Lib.hid (show cdn f N = A + cdn f ((q : Int) - 1 + 1).toNat by rw [HST.out, hfq]; simp [hZk])
        clear hZk hfq
        go_wp2_with fail
        refine (HS1.out _).mono ?_
        rintro e w3 ⟨rfl, hb3⟩
        have hB3 := hB.trans (hb3.mono hz)
        have HO3 := Lib.hid (HO.out.below hb3 (Nat.le_refl _))
        clear hb3
        go_wp2
        go_roundw
        case rel => exact ⟨(q : Int) - 1, A, hs, a, c, by omega, by omega, rfl, rfl, hA, hB3, HO3, HL, HN⟩
        case measure => first | (simp [intOf]; done) | (simp [intOf]; omega)
    · have hzz : z = -1 := by omega
      have HN2 := Lib.hid (show cdn f N = A by rw [HR.out, hzz]; rfl)
      have t1 : decide ((0 : Int) ≤ z) = false := by simp; omega
      clear hzz
      go_wp2
      go_ret
      rw [HN2.out]
      exact ⟨⟨_, _, rfl⟩, hB⟩
end Go.Proofs.Ytkpnlecmfmbkaaa

namespace Go.Proofs.Ytkpnlecmfmbkaaa
open Go.RowKit Go.Maps Go.Shelf
set_option maxRecDepth 100000 in
set_option maxHeartbeats 8000000 in
theorem l07Count_any (n : Nat) (s : Value) (bs : List Blk) (hok : ∀ x ∈ bs, okB x) (hn : n ≤ 15) : ∀ (k : Nat) (S : List Int) (m : Nat) (w : World) (_ : SB w s bs) (_ : ∀ z ∈ S, 0 ≤ z ∧ z < 15) (_ : m ≤ n) (_ : k ≤ 15),
    Calls Try.prog 126 #[.agg #[.int .i64 (n : Int), s], .int .i64 (msk S : Nat), .int .i64 (k : Int), .int .i64 ((n - m : Nat) : Int)] w (RV (.int .i64 (cM bs n m S k : Nat)) w) := by
  intro k
  induction k with
  | zero =>
    intro S m w h hS hm _
    obtain ⟨a0, c0, rfl⟩ := h.slice
    have hb0 : Below w.heap.size w (w.alloc (.cells #[.int .i64 (n : Int), .slice a0 bs.length c0] 32)) := (Below.refl _ _).alloc (Nat.le_refl _) _
    rw [cM_zero]
    obtain ⟨M, hM⟩ : ∃ M, M = msk S := ⟨_, rfl⟩
    rw [← hM]
    obtain ⟨F, hF⟩ : ∃ F, F = n - m := ⟨_, rfl⟩
    rw [← hF]
    clear hok h hS hM hF
    go_enter Try.func126, Try.ntmps126
    go_wp2
    go_ret
    exact RV_of rfl hb0
  | succ k ih =>
    intro S m w h hS hm hk15
    obtain ⟨a0, c0, rfl⟩ := h.slice
    have HSB := Lib.hid h
    have HOK := Lib.hid hok
    have HS := Lib.hid hS
    have IH := Lib.hid ih
    have hML := msk_lt15 hS
    have HIN := Lib.hid fun (p : Nat) W (hb : Below w.heap.size w W) (hp : p < 15) => l07Independent_any (n : Int) _ bs (S ++ [(p : Int)]) W (h.below hb (Nat.le_refl _)) hok (fun z hz => by
      rcases List.mem_append.1 hz with hz | hz
      · exact hS z hz
      · rw [List.mem_singleton] at hz; omega)
    have hbd := fun q => cM_le bs n q S (k + 1)
    have HBD := Lib.hid (show ∀ q, q ≤ n → cM bs n q S (k + 1) ≤ 32768 from fun q hq => Nat.le_trans (cM_le bs n q S (k + 1)) (Nat.le_trans (Nat.pow_le_pow_right (by omega) (show q ≤ 15 by omega)) (by decide)))
    have HBD2 := Lib.hid (show ∀ q T, q ≤ n → cM bs n q T k ≤ 32768 from fun q T hq => Nat.le_trans (cM_le bs n q T k) (Nat.le_trans (Nat.pow_le_pow_right (by omega) (show q ≤ 15 by omega)) (by decide)))
    obtain ⟨T, hT⟩ : ∃ T, T = cM bs n m S (k + 1) := ⟨_, rfl⟩
    have HT := Lib.hid hT
    have hT2 : T ≤ 32768 := by rw [hT]; exact HBD.out m hm
    obtain ⟨M, hM⟩ : ∃ M, M = msk S := ⟨_, rfl⟩
    obtain ⟨F, hF⟩ : ∃ F, F = n - m := ⟨_, rfl⟩
    obtain ⟨K, hK⟩ : ∃ K, K = k + 1 := ⟨_, rfl⟩
    have HM := Lib.hid hM
    have hmF : m = n - F := by omega
    rw [← hM] at hML
    rw [← hT, ← hM, ← hF, ← hK]
    have hFn : F ≤ n := by omega
    have e1 : ((K : Int) == 0) = false := by simp; omega
    have HMF := Lib.hid hmF
    have HK := Lib.hid hK
    have hKk : (K : Int) - 1 = (k : Int) := by omega
    have hK15 : K ≤ 15 := by omega
    have HKK := Lib.hid hKk
    clear hok h hS ih hT hM hF hbd hK hmF hKk
    go_enter Try.func126, Try.ntmps126
    go_wp2
    obtain ⟨w2, hw2⟩ : ∃ w2, w2 = w.alloc (.cells #[.int .i64 (n : Int), .slice a0 bs.length c0] 32) := ⟨_, rfl⟩
    have hB0 : Below w.heap.size w w2 := by rw [hw2]; exact (Below.refl _ _).alloc (Nat.le_refl _) _
    have hz2 : w2.heap.size = w.heap.size + 1 := by rw [hw2]; simp
    have hc0 : w2.cell? ⟨w.heap.size, 0, none⟩ = some (.int .i64 (n : Int)) := by rw [hw2]; simp
    have hc2 : w2.cell? ⟨w.heap.size, 1, none⟩ = some (.slice a0 bs.length c0) := by rw [hw2]; simp
    rw [← hw2]
    clear hw2
    go_loopw [9, 10] (fun q i wr => ∃ p A : Nat, p ≤ n ∧ i = .int .i64 p ∧ q = .int .i64 A ∧ A ≤ 32768 ∧ Below (w.heap.size + 1) w2 wr ∧ Hid (T = A + cM bs n (n - p) S (k + 1))) (fun _ i _ => n - (intOf i).toNat)
    case atStart => exact ⟨F, 0, hFn, rfl, rfl, by omega, Below.refl _ _, Lib.hid (by rw [Nat.zero_add, ← HMF.out]; exact HT.out)⟩
    case round =>
      obtain ⟨p, A, hp, rfl, rfl, hA, hB, HR⟩ := hrel
      have hz := hB.size
      have p0 : wr.cell? ⟨w.heap.size, 0, none⟩ = some (.int .i64 (n : Int)) := by rw [hB.cell (by simp)]; exact hc0
      have p1 : wr.cell? ⟨w.heap.size, 1, none⟩ = some (.slice a0 bs.length c0) := by rw [hB.cell (by simp)]; exact hc2
      have hBw : Below w.heap.size w wr := hB0.trans (hB.mono (by omega))
      by_cases hpk : p + K ≤ n
      · have t1 : decide ((p : Int) + (K : Int) ≤ (n : Int)) = true := by simp; omega
        have hK0 : 1 ≤ K := by have := HK.out; omega
        have hp15 : p < 15 := by omega
        obtain ⟨q1, q2, q3⟩ := wrap_pow15 (t := (p : Int)) (by omega) (by omega)
        have q4 := (bits15 hML (y := 2 ^ (p : Int).toNat) (by omega)).2
        have HOR := Lib.hid (show msk (S ++ [(p : Int)]) = M ||| 2 ^ (p : Int).toNat by rw [HM.out, msk_snoc])
        obtain ⟨P, hP⟩ : ∃ P, P = 2 ^ (p : Int).toNat := ⟨_, rfl⟩
        rw [← hP] at q3 q4 HOR
        rw [show ((2 ^ (p : Int).toNat : Nat) : Int) = (P : Int) by rw [hP]] at q1
        have q1' : wrap64 ((2 : Int) ^ p) = (P : Int) := by
          have e2 : (2 : Int) ^ p = (P : Int) := by rw [hP, Int.toNat_natCast]; simp
          rw [e2]
          unfold wrap64
          omega
        have s1 : (p : Int) ≤ 64 := by omega
        have HI1 := Lib.hid (HIN.out p wr hBw hp15)
        rw [HOR.out] at HI1
        have HST := Lib.hid (show cM bs n (n - p) S (k + 1) = (if indepL bs (S ++ [(p : Int)]) then cM bs n (n - (p + 1)) (S ++ [(p : Int)]) k else 0) + cM bs n (n - (p + 1)) S (k + 1) by
          obtain ⟨r, hr⟩ : ∃ r, n - p = r + 1 := ⟨n - p - 1, by omega⟩
          rw [hr, cM_succ, show n - (r + 1) = p by omega, show r = n - (p + 1) by omega])
        clear hP
        cases hg : indepL bs (S ++ [(p : Int)]) with
        | false =>
          rw [hg] at HI1 HST
          have HN := Lib.hid (show T = A + cM bs n (n - (p + 1)) S (k + 1) by rw [HR.out, HST.out]; simp)
          clear hg
          go_wp2_with fail
          refine HI1.out.mono ?_
          rintro e w5 ⟨rfl, hb5⟩
          have hB5 := hB.trans (hb5.mono (by omega))
          clear hb5
          go_wp2
          go_roundw
          case rel => exact ⟨p + 1, A, by omega, by go_num, rfl, hA, hB5, HN⟩
          case measure => simp [intOf]; omega
        | true =>
          rw [hg] at HI1 HST
          obtain ⟨r, hr⟩ : ∃ r, r = cM bs n (n - (p + 1)) (S ++ [(p : Int)]) k := ⟨_, rfl⟩
          have hr2 : r ≤ 32768 := by rw [hr]; exact HBD2.out _ _ (by omega)
          rw [if_pos rfl, ← hr] at HST
          have HN := Lib.hid (show T = (A + r) + cM bs n (n - (p + 1)) S (k + 1) by rw [HR.out, HST.out]; omega)
          have hAr : A + r ≤ 32768 := by have := HN.out; omega
          have HRR := Lib.hid hr
          clear hg hr
          go_wp2_with fail
          refine HI1.out.mono ?_
          rintro e w5 ⟨rfl, hb5⟩
          have HB5 := Lib.hid (hB.trans (hb5.mono (by omega)))
          have HW5 := Lib.hid (hB0.trans (HB5.out.mono (by omega)))
          have hz5 := hb5.size
          have p0 := (hb5.cell (p := ⟨w.heap.size, 0, none⟩) (by show w.heap.size < _; omega)).trans p0
          have p1 := (hb5.cell (p := ⟨w.heap.size, 1, none⟩) (by show w.heap.size < _; omega)).trans p1
          have HI := Lib.hid (IH.out (S ++ [(p : Int)]) (n - (p + 1)) w5 (HSB.out.below HW5.out (Nat.le_refl _)) (fun z hz => by
            rcases List.mem_append.1 hz with hz | hz
            · exact HS.out z hz
            · rw [List.mem_singleton] at hz; omega) (by omega) (by have := HK.out; omega))
          rw [← HRR.out, HOR.out, ← HKK.out, show ((n - (n - (p + 1)) : Nat) : Int) = (p : Int) + 1 by omega] at HI
          clear hb5
          go_wp2_with fail
          refine HI.out.mono ?_
          rintro e w6 ⟨rfl, hb6⟩
          have hB6 := HB5.out.trans (hb6.mono (by omega))
          clear hb6
          go_wp2
          go_roundw
          case rel => exact ⟨p + 1, A + r, by omega, by go_num, by go_num, hAr, hB6, HN⟩
          case measure => simp [intOf]; omega
      · have HN := Lib.hid (show T = A by rw [HR.out, cM_none bs n (n - p) S (k + 1) (by have := HK.out; omega)]; rfl)
        have t1 : decide ((p : Int) + (K : Int) ≤ (n : Int)) = false := by simp; omega
        go_wp2
        go_ret
        rw [HN.out]
        exact RV_of rfl hBw
end Go.Proofs.Ytkpnlecmfmbkaaa

namespace Go.Proofs.Ytkpnlecmfmbkaaa
open Go.RowKit Go.Maps Go.Shelf
def ciFV (v : Int) (bs : List Blk) (k : Int) : Value := .tuple #[.int .i64 (ciF v bs k).1, .int .i64 (ciF v bs k).2]
set_option maxRecDepth 100000 in
set_option maxHeartbeats 1000000 in
theorem specCountIndependent_any (v : Int) (s : Value) (bs : List Blk) (k : Int) (w : World) (h : SB w s bs) :
    Calls Try.prog 64 #[.agg #[.int .i64 v, s], .int .i64 k] w (RV (ciFV v bs k) w) := by
  have HI := Lib.hid fun W (hb : Below w.heap.size w W) => l01Is_any v s bs W (h.below hb (Nat.le_refl _))
  have HN := Lib.hid fun W => l01In_any k 0 15 W
  have hb0 : Below w.heap.size w (w.alloc (.cells #[.int .i64 v, s] 32)) := (Below.refl _ _).alloc (Nat.le_refl _) _
  have HSB := Lib.hid h
  obtain ⟨a0, c0, rfl⟩ := h.slice
  clear h
  cases hi : isSysImpl v bs with
  | false =>
    have HC := Lib.hid (show ciFV v bs k = .tuple #[.int .i64 0, .int .i64 1] by simp [ciFV, ciF, hi])
    rw [hi] at HI
    rw [HC.out]
    clear hi HSB
    go_enter Try.func64, Try.ntmps64
    go_wp2_with fail
    refine (HI.out _ hb0).mono ?_
    rintro e w1 ⟨rfl, hb1⟩
    have hbw := below_new hb1
    clear hb1
    go_wp2
    go_ret2
    exact RV_of rfl hbw
  | true =>
    rw [hi] at HI
    cases hk : (decide (0 ≤ k) && decide (k ≤ 15)) with
    | false =>
      have HC := Lib.hid (show ciFV v bs k = .tuple #[.int .i64 0, .int .i64 2] by simp only [ciFV, ciF, hi, hk]; simp)
      rw [hk] at HN
      rw [HC.out]
      clear hi hk HSB
      go_enter Try.func64, Try.ntmps64
      go_wp2_with fail
      refine (HI.out _ hb0).mono ?_
      rintro e w1 ⟨rfl, hb1⟩
      have hbw := below_new hb1
      clear hb1
      go_wp2_with fail
      refine (HN.out _).mono ?_
      rintro e w2 ⟨rfl, rfl⟩
      go_wp2
      go_ret2
      exact RV_of rfl hbw
    | true =>
      rw [hk] at HN
      have hk1 : 0 ≤ k ∧ k ≤ 15 := by simpa using hk
      obtain ⟨k1, k3⟩ := hk1
      obtain ⟨v3, v15, _⟩ := sys_size hi
      have hok := sys_ok hi
      have HC := Lib.hid (show ciFV v bs k = .tuple #[.int .i64 (cM bs v.toNat v.toNat [] k.toNat : Nat), .int .i64 0] by simp only [ciFV, ciF, hi, hk]; simp)
      obtain ⟨n, rfl⟩ : ∃ n : Nat, v = n := ⟨v.toNat, by omega⟩
      obtain ⟨kn, rfl⟩ : ∃ n : Nat, k = n := ⟨k.toNat, by omega⟩
      rw [Int.toNat_natCast, Int.toNat_natCast] at HC
      have HF : Hid (∀ W, Below w.heap.size w W → Calls Try.prog 126 #[.agg #[.int .i64 (n : Int), .slice a0 bs.length c0], .int .i64 0, .int .i64 (kn : Int), .int .i64 0] W (RV (.int .i64 (cM bs n n [] kn : Nat)) W)) := Lib.hid fun W hb => by
        have := l07Count_any n (.slice a0 bs.length c0) bs hok (by omega) kn [] n W (HSB.out.below hb (Nat.le_refl _)) (by simp) (Nat.le_refl _) (by omega)
        rw [Nat.sub_self] at this
        exact this
      rw [HC.out]
      clear hi hk hok HSB
      go_enter Try.func64, Try.ntmps64
      go_wp2_with fail
      refine (HI.out _ hb0).mono ?_
      rintro e w1 ⟨rfl, hb1⟩
      have q0 := cell_new hb1 0 rfl
      have q1 := cell_new hb1 1 rfl
      have hbw := below_new hb1
      clear hb1
      go_wp2_with fail
      refine (HN.out _).mono ?_
      rintro e w2 ⟨rfl, rfl⟩
      have HFF := Lib.hid (HF.out w1 hbw)
      go_wp2_with fail
      refine HFF.out.mono ?_
      rintro e w3 ⟨rfl, hb3⟩
      have hbw3 := hbw.trans (hb3.mono hbw.size)
      clear hb3
      go_wp2
      go_ret2
      exact RV_of rfl hbw3
end Go.Proofs.Ytkpnlecmfmbkaaa

namespace Go.Proofs.Ytkpnlecmfmbkaaa
open Go.RowKit Go.Maps Go.Shelf
theorem cdn_whole {n k : Nat} (bs : List Blk) : cdn (goodI bs [] 0 n k) (2 ^ n) = cM bs n n [] k := by
  have h := cdn_cM bs n n [] k (Nat.le_refl _) (by
    unfold indepL
    rw [List.all_eq_true]
    intro x _
    have : cntB x [] = 0 := by simp [cntB, ptsB]
    simp [this])
  rwa [Nat.sub_self] at h
set_option maxRecDepth 100000 in
set_option maxHeartbeats 4000000 in
theorem CountIndependent_any (v : Int) (s : Value) (bs : List Blk) (k : Int) (w : World) (h : SB w s bs) :
    Calls Try.prog 65 #[.agg #[.int .i64 v, s], .int .i64 k] w (RV (ciFV v bs k) w) := by
  have HI := Lib.hid fun W (hb : Below w.heap.size w W) => IsSystem_any v s bs W (h.below hb (Nat.le_refl _))
  have hb0 : Below w.heap.size w (w.alloc (.cells #[.int .i64 v, s] 32)) := (Below.refl _ _).alloc (Nat.le_refl _) _
  have HSB := Lib.hid h
  have hlb := h.2.1
  obtain ⟨a0, c0, rfl⟩ := h.slice
  clear h
  cases hi : isSysImpl v bs with
  | false =>
    have HC := Lib.hid (show ciFV v bs k = .tuple #[.int .i64 0, .int .i64 1] by simp [ciFV, ciF, hi])
    rw [hi] at HI
    rw [HC.out]
    clear hi HSB
    go_enter Try.func65, Try.ntmps65
    go_wp2_with fail
    refine (HI.out _ hb0).mono ?_
    rintro e w1 ⟨rfl, hb1⟩
    have hbw := below_new hb1
    clear hb1
    go_wp2
    go_ret2
    exact RV_of rfl hbw
  | true =>
    rw [hi] at HI
    obtain ⟨v3, v15, _⟩ := sys_size hi
    have hok := sys_ok hi
    by_cases k1 : 0 ≤ k
    · by_cases k3 : k ≤ 15
      · have HC := Lib.hid (show ciFV v bs k = .tuple #[.int .i64 (cM bs v.toNat v.toNat [] k.toNat : Nat), .int .i64 0] by simp only [ciFV, ciF, hi]; simp [k1, k3])
        obtain ⟨n, rfl⟩ : ∃ n : Nat, v = n := ⟨v.toNat, by omega⟩
        obtain ⟨kn, rfl⟩ : ∃ n : Nat, k = n := ⟨k.toNat, by omega⟩
        rw [Int.toNat_natCast, Int.toNat_natCast, ← cdn_whole] at HC
        have HBP := Lib.hid fun W (hb : Below w.heap.size w W) => blockPoints_any (n : Int) _ bs W (HSB.out.below hb (Nat.le_refl _)) hok
        have HSS := Lib.hid fun u W (hu : UB W u (mbs bs)) => setsOfSize_any n kn bs u W hu hok (by omega) (by omega)
        have hcb : cdn (goodI bs [] 0 n kn) (2 ^ n) ≤ 32768 := Nat.le_trans (cdn_le _ _) (pow15 (by omega))
        obtain ⟨c, hc⟩ : ∃ c, c = cdn (goodI bs [] 0 n kn) (2 ^ n) := ⟨_, rfl⟩
        rw [← hc] at HC HSS hcb
        have t1 : decide ((kn : Int) < 0) = false := by simp
        have t3 : decide ((15 : Int) < (kn : Int)) = false := by simp; omega
        rw [HC.out]
        clear hi hok hc HSB
        go_enter Try.func65, Try.ntmps65
        go_wp2_with fail
        refine (HI.out _ hb0).mono ?_
        rintro e w1 ⟨rfl, hb1⟩
        have q0 := cell_new hb1 0 rfl
        have q1 := cell_new hb1 1 rfl
        have hbw := below_new hb1
        have hlt1 : w.heap.size < w1.heap.size := block_lt_of_cell q0
        clear hb1
        go_wp2_with fail
        go_region_with (first | (go_at_call 109; refine (HBP.out _ ?_).mono ?_; (first | exact hbw | exact hbw.drew); rintro e w2 ⟨u, rfl, hu, hb2⟩; have HU := Lib.hid (hu.ub (by rw [mbs_len]; exact hlb)); obtain ⟨a2, c2, hf⟩ := hu.form; subst hf; have e0 := (hb2.cell (p := ⟨w.heap.size, 0, none⟩) (show w.heap.size < w1.heap.size from hlt1)).trans q0; have e1 := (hb2.cell (p := ⟨w.heap.size, 1, none⟩) (show w.heap.size < w1.heap.size from hlt1)).trans q1) | (go_at_call 127; refine (HSS.out _ _ HU.out).mono ?_; rintro e w3 ⟨a3, c3, rfl, hb3⟩))
        all_goals
          go_wp2
          go_ret2
          exact RV_of rfl ((hbw.drew.trans (hb2.mono (by have := hbw.size; simpa using this))).trans (hb3.mono (by have := hbw.size; have h2 := hb2.size; simp at h2; omega)))
      · have HC := Lib.hid (show ciFV v bs k = .tuple #[.int .i64 0, .int .i64 2] by simp only [ciFV, ciF, hi]; simp [k3])
        have t1 : decide (k < 0) = false := by simp; omega
        have t3 : decide ((15 : Int) < k) = true := by simp; omega
        rw [HC.out]
        clear hi hok HSB
        go_enter Try.func65, Try.ntmps65
        go_wp2_with fail
        refine (HI.out _ hb0).mono ?_
        rintro e w1 ⟨rfl, hb1⟩
        have hbw := below_new hb1
        clear hb1
        go_wp2
        go_ret2
        exact RV_of rfl hbw
    · have HC := Lib.hid (show ciFV v bs k = .tuple #[.int .i64 0, .int .i64 2] by simp only [ciFV, ciF, hi]; simp [k1])
      have t1 : decide (k < 0) = true := by simp; omega
      rw [HC.out]
      clear hi hok HSB
      go_enter Try.func65, Try.ntmps65
      go_wp2_with fail
      refine (HI.out _ hb0).mono ?_
      rintro e w1 ⟨rfl, hb1⟩
      have hbw := below_new hb1
      clear hb1
      go_wp2
      go_ret2
      exact RV_of rfl hbw
end Go.Proofs.Ytkpnlecmfmbkaaa

namespace Go.Proofs.Ytkpnlecmfmbkaaa
open Go.RowKit Go.Maps
set_option maxRecDepth 100000 in
theorem FnExactCountIndependent_long (v : Int) (s : Value) (bs : List Blk) (pk : Int) (w : World) (h : InB w s bs) (hl : ¬ bs.length ≤ 1048576) : Calls Try.prog 16 #[.agg #[.int .i64 v, s], .int .i64 pk] w (RV (.bool true) w) := by
  have hsl := h.slice
  have hbd := h.2.1
  have hsz := szSystem_any v s bs.length hsl (by omega) 1048576 (by omega) (by omega)
  rw [if_pos (by omega)] at hsz
  have HSZ := Lib.hid hsz
  clear hsz h
  obtain ⟨a, c, rfl⟩ := hsl
  go_enter Try.func16, Try.ntmps16
  go_wp2_with (go_at_call 24; refine (HSZ.out _).mono ?_; rintro e w1 ⟨rfl, hb1⟩)
  go_ret
  exact RV_of rfl (((Below.refl _ _).alloc (Nat.le_refl _) _).trans (hb1.mono (by simp)))

set_option maxRecDepth 100000 in
set_option maxHeartbeats 1000000 in
theorem FnExactCountIndependent_main (v : Int) (s : Value) (bs : List Blk) (pk : Int) (_h1 : WF pk) (w : World) (h : InB w s bs) (hl : bs.length ≤ 1048576) : Calls Try.prog 16 #[.agg #[.int .i64 v, s], .int .i64 pk] w (RV (.bool true) w) := by
  have hsl := h.slice
  have hbd := h.2.1
  have hsz := szSystem_any v s bs.length hsl (by omega) 1048576 (by omega) (by omega)
  have hsb := h.sb hl
  rw [if_neg (by omega)] at hsz
  obtain ⟨m, hm⟩ : ∃ m, m = (1048576 : Int) - (bs.length : Int) := ⟨_, rfl⟩
  rw [← hm] at hsz
  have hm0 : 0 ≤ m := by omega
  have HSZ := Lib.hid hsz
  have HSB := Lib.hid hsb
  have hwf := h.1
  have HWF := Lib.hid hwf
  have HBD := Lib.hid (show bs.length ≤ 1100000 by omega)
  clear hsz hsb hm h hl hbd hwf
  have hsp : ∀ (W : World) (t : Value), SB W t bs → Calls Try.prog 64 #[.agg #[.int .i64 v, t], .int .i64 pk] W (RV (ciFV v bs pk) W) := fun W t ht => specCountIndependent_any v t bs pk W ht
  have him : ∀ (W : World) (t : Value), SB W t bs → Calls Try.prog 65 #[.agg #[.int .i64 v, t], .int .i64 pk] W (RV (ciFV v bs pk) W) := fun W t ht => CountIndependent_any v t bs pk W ht
  obtain ⟨η, κ, hval⟩ : ∃ η κ, ciFV v bs pk = .tuple #[.int .i64 η, .int .i64 κ] := by
    unfold ciFV
    repeat (first | exact ⟨_, _, rfl⟩ | split)
  rw [hval] at hsp him
  have HSP := Lib.hid hsp
  have HIM := Lib.hid him
  clear hval hsp him
  have hne1 : (η != η) = false := by simp
  have hne2 : (κ != κ) = false := by simp
  obtain ⟨a, c, rfl⟩ := hsl
  go_enter Try.func16, Try.ntmps16
  go_wp2_with fail
  refine (HSZ.out _).mono ?_
  rintro e w1 ⟨rfl, hb1⟩
  have p0 := cell_new hb1 0 rfl
  have p1 := cell_new hb1 1 rfl
  have hz1 := hb1.size
  simp at hz1
  have hbw : Below w.heap.size w w1 := ((Below.refl _ _).alloc (Nat.le_refl _) _).trans (hb1.mono (by simp))
  clear hb1
  go_wp2_with fail
  refine (toSystem_any v _ bs _ (HSB.out.below hbw (Nat.le_refl _))).mono ?_
  rintro e w2 ⟨s2, rfl, ho2, hb2⟩
  have hsb2 := ho2.sb HWF.out HBD.out
  go_wp2_with fail
  refine (HSP.out _ _ hsb2).mono ?_
  rintro e w3 ⟨rfl, hb3⟩
  have hb13 := hb2.trans (hb3.mono hb2.size)
  have p0' := (hb13.cell (p := ⟨w.heap.size, 0, none⟩) (by show w.heap.size < _; omega)).trans p0
  have p1' := (hb13.cell (p := ⟨w.heap.size, 1, none⟩) (by show w.heap.size < _; omega)).trans p1
  have hz3 := hb13.size
  have hbw3 := hbw.trans (hb13.mono (by omega))
  clear p0 p1 hb2 hb3 hb13 ho2 hsb2 hbw
  go_wp2_with fail
  refine (toSystem_any v _ bs _ (HSB.out.below hbw3 (Nat.le_refl _))).mono ?_
  rintro e w4 ⟨s4, rfl, ho4, hb4⟩
  obtain ⟨g, cap, hs4, h41, h42, h43, h44⟩ := id ho4
  subst hs4
  have p0 := (hb4.cell (p := ⟨w.heap.size, 0, none⟩) (by show w.heap.size < _; omega)).trans p0'
  have p1 := (hb4.cell (p := ⟨w.heap.size, 1, none⟩) (by show w.heap.size < _; omega)).trans p1'
  have hz4 := hb4.size
  have hbw4 := hbw3.trans (hb4.mono (by omega))
  have hsb4 := ho4.sb HWF.out HBD.out
  clear p0' p1' hb4 hbw3 h41 h43 h44 ho4
  go_wp2_with fail
  refine (HIM.out _ _ (hsb4.below ((Below.refl _ _).alloc (Nat.le_refl _) _) (Nat.le_refl _))).mono ?_
  rintro e w5 ⟨rfl, hb5⟩
  have q0 := cell_new hb5 0 rfl
  have q1 := cell_new hb5 1 rfl
  have p0' := (hb5.cell (p := ⟨w.heap.size, 0, none⟩) (by simp; omega)).trans (cell_past p0 (by omega))
  have p1' := (hb5.cell (p := ⟨w.heap.size, 1, none⟩) (by simp; omega)).trans (cell_past p1 (by omega))
  have hz5 := hb5.size
  simp at hz5
  have hbw5 := (hbw4.alloc hbw4.size _).trans (hb5.mono (by simp; omega))
  have hsb5 := hsb4.below (((Below.refl _ _).alloc (Nat.le_refl _) _).trans (hb5.mono (by simp))) (Nat.le_refl _)
  clear p0 p1 hb5 hbw4 hsb4
  go_wp2
  go_region_with (first | (go_at_call 26; refine (toSystem_any v _ bs _ ?_).mono ?_; (exact HSB.out.below hbw5.drew (Nat.le_refl _)); rintro e w6 ⟨s6, rfl, ho6, hb6⟩; obtain ⟨g6, cap6, hs6, h61, h62, h63, h64⟩ := id ho6; subst hs6; have hsb6 := ho6.sb HWF.out HBD.out; have hsb56 := hsb5.below (Below.trans (Below.refl _ _).drew hb6) (Nat.le_refl _); have r0 := (hb6.cell (p := ⟨w4.heap.size, 0, none⟩) (by show w4.heap.size < _; simp; omega)).trans q0; have r1 := (hb6.cell (p := ⟨w4.heap.size, 1, none⟩) (by show w4.heap.size < _; simp; omega)).trans q1) | (go_at_call 30; refine (eqSystem_same v _ _ bs _ ?_ ?_).mono ?_; (exact hsb56); (exact hsb6); rintro e w7 ⟨rfl, hb7⟩))
  all_goals go_wp2
  all_goals go_ret
  all_goals exact RV_of rfl (hbw5.drew.trans ((hb6.mono (by simp; omega)).trans (hb7.mono (by have := hb6.size; simp at this; omega))))

theorem FnExactCountIndependent_any (v : Int) (s : Value) (bs : List Blk) (pk : Int) (_h1 : WF pk) (w : World) (h : InB w s bs) : Calls Try.prog 16 #[.agg #[.int .i64 v, s], .int .i64 pk] w (RV (.bool true) w) := by
  by_cases hl : bs.length ≤ 1048576
  · exact FnExactCountIndependent_main v s bs pk _h1 w h hl
  · exact FnExactCountIndependent_long v s bs pk w h hl
end Go.Proofs.Ytkpnlecmfmbkaaa

namespace Go.Proofs.Ytkpnlecmfmbkaaa
open Go.ChangeShapes Go.WideShapes Go.ChangeAt Go.RowKit Go.Deep Go.Joins
theorem ownKnobs : ownKnob Try.prog.godebug = none := by kernel_rfl
section
variable {H : Type} {enc : TypeId × Value → H} {W : World} {base : Nat} {held : Bool}
theorem arrCells : Try.prog.cellsOf 77 = 3 := by kernel_rfl
set_option maxRecDepth 100000 in
theorem open_arr3 {fuel : Nat} {cs : List Value} {x : DataW H × List MemPlace} (h : DataW.trod enc Try.prog W base (fun _ => true) held fuel 77 cs = some x) :
    ∃ a b c : Int, cs = [.int .i64 a, .int .i64 b, .int .i64 c] ∧ (Lit.int .i64 a).wf = true ∧ (Lit.int .i64 b).wf = true ∧ (Lit.int .i64 c).wf = true := by
  obtain ⟨xs, m, rfl, rfl, hl, hx, hat⟩ := DataW.trod_array Try.underlying77 h
  rw [arrCells] at hl
  match cs, hl with
  | [c0, c1, c2], _ =>
    match xs, hx with
    | [x0, x1, x2], _ =>
      have h0 := hat 0 (by omega)
      have h1 := hat 1 (by omega)
      have h2 := hat 2 (by omega)
      rw [int64Cells] at h0 h1 h2
      simp at h0 h1 h2
      obtain ⟨a, ha, _, wa⟩ := DataW.trod_int Try.underlying2 h0
      obtain ⟨b, hb, _, wb⟩ := DataW.trod_int Try.underlying2 h1
      obtain ⟨c, hc, _, wc⟩ := DataW.trod_int Try.underlying2 h2
      simp at ha hb hc
      exact ⟨a, b, c, by rw [ha, hb, hc], wa, wb, wc⟩
theorem add_at (b off i : Nat) : (⟨b, off, none⟩ : Addr).add i = ⟨b, off + i, none⟩ := by
  unfold Addr.add
  split
  · subst_vars; rfl
  · rfl
set_option maxRecDepth 100000 in
theorem open_arrs {fuel : Nat} {s : Value} {x : DataW H × List MemPlace} (h : DataW.trod enc Try.prog W base (fun _ => true) held fuel 22 [s] = some x) : ∃ bs, InB W s bs := by
  rcases open_slice Try.underlying22 h with ⟨hcs, _⟩ | ⟨a, len, cap, m, n, D, Pl, hcs, hb, hl, hm, hmm, hx, hi⟩
  · simp at hcs
    exact ⟨[], by simp, by simp, .inl ⟨none, 0, hcs, rfl⟩⟩
  · simp at hcs
    subst hcs
    simp at hmm
    subst hmm
    have hm' : m ≤ 9223372036854775807 := by unfold maxLen at hm; exact hm
    by_cases h0 : len = 0
    · subst h0
      exact ⟨[], by simp, by simp, .inl ⟨_, _, rfl, rfl⟩⟩
    · have cell : ∀ i, i < m → ∃ y : Blk, WFB y ∧ ∀ j (v : Value), [Value.int .i64 y.a, Value.int .i64 y.b, Value.int .i64 y.c][j]? = some v → W.cell? (a.add (i * 3 + j)) = some v := fun i him => by
        obtain ⟨cs', hc, ht⟩ := hi i him
        obtain ⟨p, q, r, rfl, wp, wq, wr⟩ := open_arr3 ht
        rw [arrCells] at hc
        obtain ⟨_, _, hat⟩ := World.cells?_some hc
        refine ⟨⟨p, q, r⟩, ⟨wp, wq, wr⟩, fun j v hv => ?_⟩
        have hj : j < 3 := by
          have := (List.getElem?_eq_some_iff.1 hv).1
          simpa using this
        rw [← Go.Deep.add_add, hat j hj]
        exact hv
      obtain ⟨F, hF⟩ := choose_lt (α := Blk) cell
      obtain ⟨b, off, spot⟩ := a
      have hc0 := (hF 0 (by omega)).2 0 _ rfl
      have hspot : spot = none := by simpa [Addr.add] using World.cell?_spot hc0
      subst hspot
      refine ⟨(List.range len).map F, ?_, by simp; omega, .inr ⟨b, off, m, by simp, ?_, ?_⟩⟩
      · intro y hy
        obtain ⟨i, hi', rfl⟩ := List.mem_map.1 hy
        exact (hF i (by have := List.mem_range.1 hi'; omega)).1
      · exact block_lt_of_cell hc0
      · intro k hk
        simp at hk
        have e : ((List.range len).map F)[k]?.getD default = F k := by simp [hk]
        rw [e]
        have := (hF k (by omega)).2
        refine ⟨?_, ?_, ?_⟩
        · have h0 := this 0 _ rfl
          rw [add_at] at h0
          exact h0
        · have h1 := this 1 _ rfl
          rw [add_at, ← Nat.add_assoc] at h1
          exact h1
        · have h2 := this 2 _ rfl
          rw [add_at, ← Nat.add_assoc] at h2
          exact h2
theorem isSys : ∃ f0 f1 : Field, Try.prog.underlying 24 = some (.struct #[f0, f1]) ∧ f0.type = 2 ∧ f1.type = 22 ∧ oneCellFields Try.prog #[f0, f1] = true :=
  ⟨_, _, Try.underlying24, rfl, rfl, by kernel_rfl⟩
theorem sysCells : Try.prog.cellsOf 24 = 2 := by kernel_rfl
set_option maxRecDepth 100000 in
theorem open_system {r : Reach} {b0 : Nat} {v : Value} {d : DataW H} {p : List MemPlace} (hv : Value.okWide Try.prog W r b0 24 v) (h : DataW.Trod enc Try.prog W base (fun _ => true) held 24 v d p) :
    ∃ (n : Int) (s : Value) (bs : List Blk), v = .agg #[.int .i64 n, s] ∧ WF n ∧ InB W s bs := by
  obtain ⟨f0, f1, hu, e0, e1, hone⟩ := isSys
  obtain ⟨v0, v1, y0, y1, n, rfl, _, _, h0, h1⟩ := open_agg2 hu hone sysCells hv h
  rw [e0] at h0
  rw [e1] at h1
  obtain ⟨k, hk, _, wk⟩ := DataW.trod_int Try.underlying2 h0
  simp at hk
  subst hk
  obtain ⟨bs, hbs⟩ := open_arrs h1
  exact ⟨k, v1, bs, rfl, wk, hbs⟩
end
end Go.Proofs.Ytkpnlecmfmbkaaa

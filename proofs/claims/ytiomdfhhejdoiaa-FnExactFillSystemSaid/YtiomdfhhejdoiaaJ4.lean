
/- The program's ThirdPoint where it searches. The program's BlocksAt: the indices of the blocks through a point. The model's list of the blocks that can be put in. Plain facts on trades, without the program. Filling a system, plain. What DoubleSystem answers: plain. Rows of blocks that are written and sorted in place. append of many blocks to a list of the call's own. The laws' marks in systems. Two blocks are compared point by point. -/
import Derived.Test.YtiomdfhhejdoiaaJ3
import Derived.Maps.AppendAt
import Derived.Shelf.SlSortCmp.NoneTotal
import Derived.Deep.RegionLaw
import Derived.Deep.AppendLies
namespace Go.Proofs.Ytiomdfhhejdoiaa
open Go.RowKit Go.Maps Go.Shelf
attribute [local go_sem] Oper.semAt_some
/-- A block in a box. -/
def B3 (W : World) (B : Nat) (x : Blk) : Prop := W.heap[B]? = some (.cells #[.int .i64 x.a, .int .i64 x.b, .int .i64 x.c] 68 (0, 0))
theorem B3.lt {W : World} {B : Nat} {x : Blk} (h : B3 W B x) : B < W.heap.size := (Array.getElem?_eq_some_iff.1 h).1
theorem B3.cells {W : World} {B : Nat} {x : Blk} (h : B3 W B x) : W.cell? ⟨B, 0, none⟩ = some (.int .i64 x.a) ∧ W.cell? ⟨B, 1, none⟩ = some (.int .i64 x.b) ∧ W.cell? ⟨B, 2, none⟩ = some (.int .i64 x.c) := by
  have : W.heap[B]? = _ := h
  refine ⟨?_, ?_, ?_⟩ <;> simp [World.cell?, this]
theorem B3.own (B : Nat) (x : Blk) : Own (fun (_ : Unit) W => B3 W B x) := fun _ X Y row hs hg hrow =>
  (hg.block B hs.lt (fun e' => by obtain ⟨o, ho, hc⟩ := hrow B e'.symm; rw [show X.heap[B]? = _ from hs] at ho; cases ho; cases hc)).trans hs
/-- The third point as it is reckoned. -/
def thirdW (x : Blk) (a b : Int) : Int := wrap64 (wrap64 (wrap64 (wrap64 (x.a + x.b) + x.c) - a) - b)
theorem upTo_snd (bs : List Blk) {k : Nat} (hk : k ≤ bs.length) : ((List.range k).map fun j => ((j, bs[j]?.getD default) : Nat × Blk)).map (·.2) = bs.take k := by
  apply List.ext_getElem
  · simp [hk]
  · intro i h1 h2
    have : i < bs.length := by simp at h1; omega
    simp [this]
theorem upTo_find (p b : Int) (bs : List Blk) {k : Nat} (hk : k ≤ bs.length) : ((upTo p bs k).find? fun q => hasB q.2 b).map (·.2) = (bs.take k).find? (bothB p b) := by
  rw [← upTo_snd bs hk, List.find?_map]
  unfold upTo
  rw [List.find?_filter]
  congr 2
  funext q
  simp [bothB]
theorem find_done {p b : Int} {bs : List Blk} (h : ∀ q ∈ upTo p bs bs.length, hasB q.2 b = false) : bs.find? (bothB p b) = none := by
  have e := upTo_find p b bs (Nat.le_refl _)
  rw [List.take_length] at e
  rw [← e, List.find?_eq_none.2 (fun q hq => by simp [h q hq])]
  rfl
theorem find_stop {p b : Int} {bs : List Blk} {k : Nat} (hk : k ≤ bs.length) {ini : List (Nat × Blk)} {last : Nat × Blk} (e : upTo p bs k = ini ++ [last]) (h : ∀ q ∈ ini, hasB q.2 b = false) (hl : hasB last.2 b = true) : bs.find? (bothB p b) = some last.2 := by
  have e2 := upTo_find p b bs hk
  rw [e, List.find?_append, List.find?_eq_none.2 (fun q hq => by simp [h q hq])] at e2
  simp [hl] at e2
  rw [← List.take_append_drop k bs, List.find?_append, ← e2]
  rfl
theorem inP_iff {v a : Int} : inP v a = true ↔ 0 ≤ a ∧ a < v := by simp [inP]
theorem thirdW_eq {v a b : Int} {bs : List Blk} {x : Blk} (hi : isSysImpl v bs = true) (hx : bs.find? (bothB a b) = some x) (ha : inP v a = true) (hb : inP v b = true) : thirdW x a b = thirdOf x a b := by
  have hg := sys_good hi x (List.mem_of_find?_eq_some hx)
  have hv := (sys_size hi).2.1
  rw [goodB_iff] at hg
  rw [inP_iff] at ha hb
  unfold thirdW thirdOf wrap64
  omega
theorem KpB.alloc {n₀ Bp : Nat} {W : World} (hn : n₀ ≤ W.heap.size) (o : Obj) : KpB n₀ Bp W (W.alloc o) := ⟨(Below.refl _ _).alloc hn _, fun _ hu => cell_past hu (by obtain ⟨ob, ho, _⟩ := cells_of_cell hu; exact (Array.getElem?_eq_some_iff.1 ho).1)⟩
theorem KpB.drew (n₀ Bp : Nat) (W : World) : KpB n₀ Bp W W.drew := ⟨below_drewN (Below.refl _ _) 1, fun _ hu => cell_drewN hu 1⟩
theorem boxed_drew {W : World} {B : Nat} {t : TypeId} {u : Value} (h : Boxed W B t u) : Boxed W.drew B t u := h
theorem three (W : World) (B : Nat) (x : Blk) (p : Int) (h : B3 W B x) : Calls Try.prog 109 #[.slice (some ⟨B, 0, none⟩) 3 3, .int .i64 p] W (RS (.bool (hasB x p)) W) := by
  obtain ⟨g1, g2, g3⟩ := h.cells
  rw [← inL3]
  exact Contains_any B 0 3 [x.a, x.b, x.c] p W (ints3 g1 g2 g3) (by simp)
end Go.Proofs.Ytiomdfhhejdoiaa

namespace Go.Proofs.Ytiomdfhhejdoiaa
open Go.RowKit Go.Maps Go.Shelf
attribute [local go_sem] Oper.semAt_some
theorem infoInt64 : (Try.prog.info? 2).map (fun i => (i.zero, i.size, i.bytes)) = some (some (.int .i64 0), 1, 8) := by kernel_rfl
def idxs (pre : List (Nat × Blk)) : List Value := pre.map fun q => .int .i64 (q.1 : Int)
/-- The value owns a row of these integers, beyond base; it is nil just where there is none. -/
def OwnI (W : World) (base : Nat) (u : Value) (zs : List Value) : Prop := W.ownsRow base 2 1 u zs.length zs ∧ (u = .slice none 0 0 ↔ zs = [])
/-- Returns a fresh slice of integers and a code. -/
def RInts (zs : List Value) (κ : Int) (w : World) (e : Ending) (w' : World) : Prop := ∃ u, e = .returned (.tuple #[u, .int .i64 κ]) ∧ OwnI w' w.heap.size u zs ∧ Below w.heap.size w w'
theorem ownsRow_base {W : World} {base base' : Nat} {e : TypeId} {size : Nat} {v : Value} {k : Nat} {xs : List Value} (h : W.ownsRow base e size v k xs) (hb : base' ≤ base) : W.ownsRow base' e size v k xs := by
  obtain ⟨h1, h2⟩ := h
  refine ⟨h1, ?_⟩
  rcases h2 with h2 | ⟨g, cap, cur, e1, e2, e3⟩
  · exact .inl h2
  · exact .inr ⟨g, cap, cur, e1, by omega, e3⟩
theorem lt_new {w w1 : World} {cs : Array Value} {T : TypeId} (h : Below (w.alloc (.cells cs T)).heap.size (w.alloc (.cells cs T)) w1) : w.heap.size < w1.heap.size := by
  have := h.size
  simp at this
  omega
theorem below_new {w w1 : World} {cs : Array Value} {T : TypeId} (h : Below (w.alloc (.cells cs T)).heap.size (w.alloc (.cells cs T)) w1) : Below w.heap.size w w1 :=
  ((Below.refl _ _).alloc (Nat.le_refl _) _).trans (h.mono (by simp))
theorem appended2 {W w1 : World} {n n₁ B Bp : Nat} {t e : TypeId} {size : Nat} {v v' : Value} {k m : Nat} {xs ys : List Value} {tmp : Obj}
    (hv : Boxed W B t v) (hte : t ≠ e) (hrow : W.ownsRow n₁ e size v k xs) (hn : n ≤ W.heap.size) (hB : n ≤ B) (hnn : n ≤ n₁) (hBp : Bp < n₁) (hne : Bp ≠ B)
    (hown' : w1.ownsRow n₁ e size v' m ys) (hgrow : (W.alloc tmp).grownBy w1 v.ownBlock) :
    Boxed w1 B t v ∧ Boxed (w1.setCell ⟨B, 0, none⟩ v') B t v' ∧ (w1.setCell ⟨B, 0, none⟩ v').ownsRow n₁ e size v' m ys ∧ KeepsOthers W (w1.setCell ⟨B, 0, none⟩ v') ∧ KpB n Bp W (w1.setCell ⟨B, 0, none⟩ v') := by
  have hv1 : Boxed w1 B t v := (hv.alloc tmp).kept hgrow (hv.not_row hte hrow)
  have hge : ∀ j, v.ownBlock = some j → n₁ ≤ j := fun j ej => by
    rcases hrow.2 with ⟨rfl, _⟩ | ⟨g, cap, cur, rfl, hb, _, _⟩
    · simp [Value.ownBlock] at ej
    · obtain rfl : g = j := by simpa [Value.ownBlock] using ej
      exact hb
  refine ⟨hv1, hv1.set v', hown'.kept (grownBy_setCell' w1 B v') (.inr (hv1.not_row hte hown').symm), ?_, ?_, ?_⟩
  · refine ((KeepsOthers.alloc W tmp).trans (KeepsOthers.of_grownBy hgrow fun j o ej hj => ?_)).trans (KeepsOthers.setCell _ _ _)
    rcases (hrow.alloc tmp).2 with ⟨rfl, _⟩ | ⟨g, cap, cur, rfl, _, hgb, _⟩
    · simp [Value.ownBlock] at ej
    · obtain rfl : g = j := by simpa [Value.ownBlock] using ej
      rw [hgb] at hj; cases hj; rfl
  · exact (((Below.refl n W).alloc hn tmp).grown hgrow (by simp; omega) fun j ej => Nat.le_trans hnn (hge j ej)).setCell (p := ⟨B, 0, none⟩) hB v'
  · intro u hu
    have hlt : Bp < W.heap.size := by obtain ⟨ob, ho, _⟩ := cells_of_cell hu; exact (Array.getElem?_eq_some_iff.1 ho).1
    have h1 := cell_past (ob := tmp) hu hlt
    have h2 : w1.cell? ⟨Bp, 0, none⟩ = some u := (World.cell?_of_block (hgrow.block Bp (by simp; omega) (fun e' => by have := hge Bp e'.symm; omega))).trans h1
    exact (World.cell?_of_block ((grownBy_setCell' w1 B v').block Bp (Nat.lt_of_lt_of_le (by simp; omega) hgrow.size) (fun e' => hne (by cases e'; rfl)))).trans h2
end Go.Proofs.Ytiomdfhhejdoiaa

namespace Go.Proofs.Ytiomdfhhejdoiaa
open Go.RowKit Go.Maps
theorem OwnR.new0 (W : World) {base : Nat} (hb : base ≤ W.heap.size) : OwnR (W.alloc (.cells #[] 68)) base (.slice (some ⟨W.heap.size, 0, none⟩) 0 0) [] :=
  ⟨rfl, .inr ⟨W.heap.size, 0, #[], rfl, hb, World.alloc_heap_new W _, Nat.le_refl _, Nat.zero_le _, rfl, rfl⟩⟩
def restA (bs : List Blk) (v a : Nat) : List Blk := (rowA v a).filter (okB bs)
def restB (bs : List Blk) (v a n : Nat) : List Blk := restA bs v a ++ (rowB v a n).filter (okB bs)
def restC (bs : List Blk) (v a b n : Nat) : List Blk := restB bs v a (b - (a + 1)) ++ (rowC a b n).filter (okB bs)
theorem restA_succ (bs : List Blk) (v a : Nat) : restA bs v (a + 1) = restB bs v a (v - (a + 1)) := by unfold restB restA; rw [rowA_succ, List.filter_append]
theorem restB_succ (bs : List Blk) (v a b : Nat) (h : a + 1 ≤ b) : restB bs v a (b + 1 - (a + 1)) = restC bs v a b (v - (b + 1)) := by
  unfold restC restB
  rw [show b + 1 - (a + 1) = (b - (a + 1)) + 1 by omega, rowB_succ, List.filter_append, ← List.append_assoc, show a + 1 + (b - (a + 1)) = b by omega]
theorem restC_succ (bs : List Blk) (v a b c : Nat) (h : b + 1 ≤ c) : restC bs v a b (c + 1 - (b + 1)) = restC bs v a b (c - (b + 1)) ++ if okB bs ⟨(a : Int), (b : Int), (c : Int)⟩ then [⟨(a : Int), (b : Int), (c : Int)⟩] else [] := by
  unfold restC
  rw [show c + 1 - (b + 1) = (c - (b + 1)) + 1 by omega, rowC_succ, List.filter_append, ← List.append_assoc, show b + 1 + (c - (b + 1)) = c by omega]
  congr 1
  simp [List.filter_cons]
theorem restB_start (bs : List Blk) (v a : Nat) : restB bs v a (a + 1 - (a + 1)) = restA bs v a := by simp [restB, rowB]
theorem restC_start (bs : List Blk) (v a b : Nat) : restC bs v a b (b + 1 - (b + 1)) = restB bs v a (b - (a + 1)) := by simp [restC, rowC]
theorem restC_len {bs : List Blk} {v a b n : Nat} (hv : v ≤ 15) (ha : a ≤ 15) (hb : b ≤ 15) (hn : n ≤ 15) : (restC bs v a b n).length ≤ 4000 := by
  have h1 := rowA_len (v := v) (n := a) hv
  have h2 := rowB_len (v := v) (a := a) (n := b - (a + 1)) hv
  have h3 := rowC_len a b n
  have f1 := List.length_filter_le (okB bs) (rowA v a)
  have f2 := List.length_filter_le (okB bs) (rowB v a (b - (a + 1)))
  have f3 := List.length_filter_le (okB bs) (rowC a b n)
  unfold restC restB restA
  simp only [List.length_append]
  omega
set_option maxRecDepth 100000 in
set_option maxHeartbeats 1000000 in
theorem l01Rest_any (v : Nat) (hv : v ≤ 15) (s : Value) (bs : List Blk) (w : World) (h : SB w s bs) :
    Calls Try.prog 51 #[.agg #[.int .i64 (v : Int), s]] w fun e w' => ∃ u, e = .returned u ∧ OwnR w' w.heap.size u (restA bs v v) ∧ Below w.heap.size w w' := by
  have hs := h.slice
  have HF := Lib.hid fun (x : Blk) W (hb : Below w.heap.size w W) => l01Free_any (v : Int) s bs x W (h.below hb (Nat.le_refl _))
  clear h
  obtain ⟨a0, c0, rfl⟩ := hs
  go_enter Try.func51, Try.ntmps51
  go_wp2
  have ho0 := OwnR.new0 (w.alloc (.cells #[.int .i64 (v : Int), .slice a0 bs.length c0] 31)) (base := w.heap.size + 1) (by simp)
  rw [World.size_alloc] at ho0
  obtain ⟨w2, hw2⟩ : ∃ w2, (w.alloc (.cells #[.int .i64 (v : Int), .slice a0 bs.length c0] 31)).alloc (.cells #[] 68) = w2 := ⟨_, rfl⟩
  have hB0 : Below w.heap.size w w2 := by rw [← hw2]; exact ((Below.refl _ _).alloc (Nat.le_refl _) _).alloc (by simp) _
  have hz2 : w2.heap.size = w.heap.size + 1 + 1 := by rw [← hw2]; simp
  have k0 : w2.cell? ⟨w.heap.size, 0, none⟩ = some (.int .i64 (v : Int)) := by rw [← hw2]; exact cell_past (new_at 0 rfl) (by simp)
  have k1 : w2.cell? ⟨w.heap.size, 1, none⟩ = some (.slice a0 bs.length c0) := by rw [← hw2]; exact cell_past (new_at 1 rfl) (by simp)
  rw [hw2] at ho0 ⊢
  have HO0 := Lib.hid ho0
  clear hw2 ho0
  go_loopw [3, 4] (fun o i wr => ∃ a : Nat, a ≤ v ∧ i = .int .i64 a ∧ Below (w.heap.size + 1) w2 wr ∧ OwnR wr (w.heap.size + 1) o (restA bs v a) ∧ ∃ p n c, o = .slice p n c) (fun _ i _ => v - (intOf i).toNat)
  case atStart => exact ⟨0, Nat.zero_le _, rfl, Below.refl _ _, HO0.out, _, _, _, rfl⟩
  case round =>
    obtain ⟨a, ha, rfl, hB, hO, hform⟩ := hrel
    have r0 : wr.cell? ⟨w.heap.size, 0, none⟩ = some (.int .i64 (v : Int)) := by rw [hB.cell (by simp)]; exact k0
    obtain ⟨a3, n3, c3, rfl⟩ := hform
    have HO := Lib.hid hO
    clear hO
    by_cases hav : a < v
    · go_wp2
      obtain ⟨wo, hwo⟩ : ∃ wo : World, wo = wr := ⟨_, rfl⟩
      rw [← hwo] at hB HO r0 ⊢
      clear hwo
      go_loopw [3, 5] (fun o i wr => ∃ b : Nat, a + 1 ≤ b ∧ b ≤ v ∧ i = .int .i64 b ∧ Below (w.heap.size + 1) w2 wr ∧ OwnR wr (w.heap.size + 1) o (restB bs v a (b - (a + 1))) ∧ ∃ p n c, o = .slice p n c) (fun _ i _ => v - (intOf i).toNat)
      case atStart => exact ⟨a + 1, Nat.le_refl _, by omega, int_eq (by omega), hB, by rw [restB_start]; exact HO.out, _, _, _, rfl⟩
      case round =>
        obtain ⟨b, hab, hb, rfl, hB1, hO, hform⟩ := hrel
        have r1 : wr.cell? ⟨w.heap.size, 0, none⟩ = some (.int .i64 (v : Int)) := by rw [hB1.cell (by simp)]; exact k0
        obtain ⟨a4, n4, c4, rfl⟩ := hform
        have HO1 := Lib.hid hO
        clear hO
        by_cases hbv : b < v
        · go_wp2
          obtain ⟨wo1, hwo⟩ : ∃ wo : World, wo = wr := ⟨_, rfl⟩
          rw [← hwo] at hB1 HO1 r1 ⊢
          clear hwo
          go_loopw [3, 6] (fun o i wr => ∃ c : Nat, b + 1 ≤ c ∧ c ≤ v ∧ i = .int .i64 c ∧ Below (w.heap.size + 1) w2 wr ∧ OwnR wr (w.heap.size + 1) o (restC bs v a b (c - (b + 1))) ∧ ∃ p n c, o = .slice p n c) (fun _ i _ => v - (intOf i).toNat)
          case atStart => exact ⟨b + 1, Nat.le_refl _, by omega, int_eq (by omega), hB1, by rw [restC_start]; exact HO1.out, _, _, _, rfl⟩
          case round =>
            obtain ⟨c, hbc, hc, rfl, hB2, hO, hform⟩ := hrel
            have t0 : wr.cell? ⟨w.heap.size, 0, none⟩ = some (.int .i64 (v : Int)) := by rw [hB2.cell (by simp)]; exact k0
            have t1 : wr.cell? ⟨w.heap.size, 1, none⟩ = some (.slice a0 bs.length c0) := by rw [hB2.cell (by simp)]; exact k1
            obtain ⟨a5, n5, c5, rfl⟩ := hform
            have HO2 := Lib.hid hO
            clear hO
            have hz := hB2.size
            have hBw : Below w.heap.size w wr := hB0.trans (hB2.mono (by omega))
            by_cases hcv : c < v
            · have hs := restC_succ bs v a b c hbc
              have hf := HF.out ⟨(a : Int), (b : Int), (c : Int)⟩ wr hBw
              dsimp only [bv] at hf
              have hlen : (restC bs v a b (c - (b + 1))).length ≤ 4000 := restC_len hv (by omega) (by omega) (by omega)
              have HLEN := Lib.hid hlen
              clear hlen
              cases hok : okB bs ⟨(a : Int), (b : Int), (c : Int)⟩ with
              | false =>
                rw [hok] at hf hs
                rw [if_neg (by decide), List.append_nil] at hs
                have HS := Lib.hid hs
                have HFF := Lib.hid hf
                clear hf hs hok
                go_wp2_with (go_at_call 54; refine HFF.out.mono ?_; rintro e w3 ⟨rfl, hb3⟩)
                go_roundw
                case rel => exact ⟨c + 1, by omega, by omega, by go_num, hB2.trans (hb3.mono (by omega)), by rw [HS.out]; exact HO2.out.below hb3 (Nat.le_refl _), _, _, _, rfl⟩
                case measure => simp [intOf]; omega
              | true =>
                rw [hok] at hf hs
                rw [if_pos rfl] at hs
                have HS := Lib.hid hs
                have HFF := Lib.hid hf
                clear hf hs hok
                go_wp2_with fail
                refine HFF.out.mono ?_
                rintro e w3 ⟨rfl, hb3⟩
                have hz3 := hb3.size
                have HO3 := Lib.hid (HO2.out.below hb3 (Nat.le_refl _))
                go_wp2_with (at_builtin; refine wpList_append_blk rfl _ _ rfl (w.heap.size + 1) _ (restC bs v a b (c - (b + 1))) rfl (HO3.out.below ((Below.refl _ _).alloc (Nat.le_refl _) _) (Nat.le_refl _)) _ _ ⟨(a : Int), (b : Int), (c : Int)⟩ rfl (by simp [go_sem]) (by simp [go_sem]) (by simp [go_sem]) (by have := HLEN.out; omega) (by simp; omega) ?_; intro g' cap' w4 hO4 hg4)
                have hrow := HO3.out.row
                have hgo : w3.grownBy w4 (Value.slice a5 n5 c5).ownBlock := ⟨hg4.os, hg4.tape, hg4.output, by have := hg4.size; simp at this; omega, fun i hi hne => by
                  rw [hg4.block i (by simp; omega) hne, Below.heap_alloc _ _ _ hi]⟩
                clear hg4
                have hB3 := hB2.trans (hb3.mono (by omega))
                go_roundw
                case rel => exact ⟨c + 1, by omega, by omega, by go_num, hB3.grown hgo (by omega) (fun j e => hrow j e), by rw [HS.out]; exact hO4, _, _, _, rfl⟩
                case measure => simp [intOf]; omega
            · have e : c = v := by omega
              subst e
              go_wp2
              go_roundw
              case rel => exact ⟨b + 1, by omega, by omega, by go_num, hB2, by rw [restB_succ _ _ _ _ hab]; exact HO2.out, _, _, _, rfl⟩
              case measure => simp [intOf]; omega
        · have e : b = v := by omega
          subst e
          go_wp2
          go_roundw
          case rel => exact ⟨a + 1, by omega, by go_num, hB1, by rw [restA_succ]; exact HO1.out, _, _, _, rfl⟩
          case measure => simp [intOf]; omega
    · have e : a = v := by omega
      subst e
      go_wp2
      go_ret
      exact ⟨_, rfl, ownsRow_base HO.out (by omega), hB0.trans (hB.mono (by omega))⟩
end Go.Proofs.Ytiomdfhhejdoiaa

namespace Go.Proofs.Ytiomdfhhejdoiaa
/-- The pairs of a list of blocks. -/
def prs (bs : List Blk) : List (Int × Int) := bs.flatMap pairsL
/-- The same pairs. -/
def samePr (bs cs : List Blk) : Bool := (prs bs).all (fun p => decide (p ∈ prs cs)) && (prs cs).all (fun p => decide (p ∈ prs bs))
/-- No block is in both. -/
def dsj (bs cs : List Blk) : Bool := bs.all fun x => !decide (x ∈ cs)
def trdB (v : Int) (bo bi : List Blk) : Bool := isSysImpl v bo && isSysImpl v bi && (samePr bo bi && dsj bo bi)
theorem samePr_iff {bs cs : List Blk} : samePr bs cs = true ↔ ∀ p, p ∈ prs bs ↔ p ∈ prs cs := by
  simp only [samePr, Bool.and_eq_true, List.all_eq_true, decide_eq_true_eq]
  exact ⟨fun h p => ⟨h.1 p, h.2 p⟩, fun h => ⟨fun p => (h p).1, fun p => (h p).2⟩⟩
theorem dsj_iff {bs cs : List Blk} : dsj bs cs = true ↔ ∀ x ∈ bs, x ∉ cs := by simp [dsj]
theorem dsj_symm (bs cs : List Blk) : dsj bs cs = dsj cs bs := by
  rw [Bool.eq_iff_iff, dsj_iff, dsj_iff]
  exact ⟨fun h x hx hy => h x hy hx, fun h x hx hy => h x hy hx⟩
theorem samePr_symm (bs cs : List Blk) : samePr bs cs = samePr cs bs := by
  rw [Bool.eq_iff_iff, samePr_iff, samePr_iff]
  exact ⟨fun h p => (h p).symm, fun h p => (h p).symm⟩
theorem trdB_symm (v : Int) (bo bi : List Blk) : trdB v bo bi = trdB v bi bo := by
  unfold trdB
  rw [samePr_symm, dsj_symm, Bool.and_comm (isSysImpl v bo)]
theorem prs_length (bs : List Blk) : (prs bs).length = 3 * bs.length := by
  induction bs with
  | nil => rfl
  | cons x r ih =>
    simp only [prs, List.flatMap_cons, List.length_append, List.length_cons] at ih ⊢
    rw [ih]
    simp [pairsL]; omega
theorem share_nodup {v : Int} (hv : v ≤ 15) : ∀ (bs : List Blk) (seen : List (Int × Int)), (∀ x ∈ bs, goodB v x = true) → seen.Nodup → shareGo seen bs = false → (seen ++ prs bs).Nodup
  | [], seen, _, hn, _ => by simpa [prs] using hn
  | x :: r, seen, hb, hn, h => by
    unfold shareGo at h
    split at h
    · rename_i hf
      rw [freeB_iff] at hf
      obtain ⟨g1, _⟩ := good_pairs hv (hb x (by simp))
      have := share_nodup hv r (seen ++ pairsL x) (fun y hy => hb y (by simp [hy])) (List.nodup_append.2 ⟨hn, g1, fun p hp q hq e => hf q hq (e ▸ hp)⟩) h
      simpa [prs, List.append_assoc] using this
    · cases h
theorem sys_parts {v : Int} {bs : List Blk} (h : isSysImpl v bs = true) : 3 ≤ v ∧ v ≤ 15 ∧ (∀ x ∈ bs, goodB v x = true) ∧ shareGo [] bs = false := by
  simp only [isSysImpl, Bool.and_eq_true, decide_eq_true_eq, Bool.not_eq_true'] at h
  exact ⟨h.1.1.1, h.1.1.2, order_good h.1.2, h.2⟩
theorem prs_nodup {v : Int} {bs : List Blk} (h : isSysImpl v bs = true) : (prs bs).Nodup := by
  obtain ⟨_, h2, h3, h4⟩ := sys_parts h
  simpa using share_nodup h2 bs [] h3 List.nodup_nil h4
theorem sub_back {α : Type} [DecidableEq α] {l m : List α} (hn : l.Nodup) (hs : ∀ x ∈ l, x ∈ m) (hl : m.length ≤ l.length) : ∀ x ∈ m, x ∈ l := by
  intro x hx
  apply Classical.byContradiction
  intro hnot
  have h := nodup_length l (m.erase x) hn (fun y hy => by
    have hne : y ≠ x := fun e => hnot (e ▸ hy)
    exact (List.mem_erase_of_ne hne).2 (hs y hy))
  rw [List.length_erase_of_mem hx] at h
  have : 0 < m.length := List.length_pos_of_mem hx
  omega
/-- Of two systems: as many pairs, and those of the first in the second, say the same. -/
theorem samePr_of {v u : Int} {bs cs : List Blk} (h1 : isSysImpl v bs = true) (h2 : isSysImpl u cs = true) : samePr bs cs = (decide ((prs bs).length = (prs cs).length) && (prs bs).all fun p => decide (p ∈ prs cs)) := by
  have n1 := prs_nodup h1
  have n2 := prs_nodup h2
  rw [Bool.eq_iff_iff, samePr_iff]
  simp only [Bool.and_eq_true, List.all_eq_true, decide_eq_true_eq]
  constructor
  · intro h
    exact ⟨Nat.le_antisymm (nodup_length _ _ n1 fun x hx => (h x).1 hx) (nodup_length _ _ n2 fun x hx => (h x).2 hx), fun x hx => (h x).1 hx⟩
  · rintro ⟨h, hs⟩ p
    exact ⟨hs p, sub_back n1 hs (by omega) p⟩
/-- The blocks that are not in the others. -/
def lessL (bs cs : List Blk) : List Blk := bs.filter fun x => !decide (x ∈ cs)
theorem lessL_length (bs cs : List Blk) : (lessL bs cs).length ≤ bs.length := List.length_filter_le _ _
theorem lessL_mem {bs cs : List Blk} {x : Blk} : x ∈ lessL bs cs ↔ x ∈ bs ∧ x ∉ cs := by simp [lessL]
theorem lessL_strict {bs cs : List Blk} (h : bs.Pairwise fun x y => befB x y = true) : (lessL bs cs).Pairwise fun x y => befB x y = true := h.filter _
theorem sortB_strict {bs : List Blk} (h : bs.Pairwise fun x y => befB x y = true) : sortB bs = bs := sortB_eq (strict_srt h) (List.Perm.refl _)
end Go.Proofs.Ytiomdfhhejdoiaa

namespace Go.Proofs.Ytiomdfhhejdoiaa
/-- Each block that is still free is put in. -/
def fillGo : List Blk → List Blk → List Blk
  | acc, [] => acc
  | acc, x :: r => fillGo (if freeB (acc.flatMap pairsL) x then acc ++ [x] else acc) r
theorem fillGo_snoc (x : Blk) : ∀ (r acc : List Blk), fillGo acc (r ++ [x]) = if freeB ((fillGo acc r).flatMap pairsL) x then fillGo acc r ++ [x] else fillGo acc r
  | [], _ => rfl
  | _ :: r, acc => by
    simp only [List.cons_append, fillGo]
    exact fillGo_snoc x r _
theorem fillGo_len : ∀ (r acc : List Blk), (fillGo acc r).length ≤ acc.length + r.length
  | [], _ => by simp [fillGo]
  | x :: r, acc => by
    unfold fillGo
    refine Nat.le_trans (fillGo_len r _) ?_
    split <;> simp <;> omega
theorem fillGo_good {v : Int} : ∀ (r acc : List Blk), (∀ y ∈ r, goodB v y = true) → (∀ y ∈ acc, goodB v y = true) → ∀ y ∈ fillGo acc r, goodB v y = true
  | [], _, _, ha, y, hy => ha y hy
  | x :: r, acc, hr, ha, y, hy => by
    unfold fillGo at hy
    refine fillGo_good r _ (fun z hz => hr z (by simp [hz])) ?_ y hy
    split
    · intro z hz
      rcases List.mem_append.1 hz with hz | hz
      · exact ha z hz
      · rw [List.mem_singleton.1 hz]
        exact hr x (by simp)
    · exact ha
theorem freeB_sort (acc : List Blk) (x : Blk) : freeB ((sortB acc).flatMap pairsL) x = freeB (acc.flatMap pairsL) x := by
  rw [Bool.eq_iff_iff, freeB_iff, freeB_iff]
  simp only [List.mem_flatMap, sortB_mem]
theorem sort_snoc (acc : List Blk) (x : Blk) : sortB (sortB acc ++ [x]) = sortB (acc ++ [x]) := sortB_of_perm ((sortB_perm acc).append_right [x])
theorem okB_sort {v : Int} {acc : List Blk} {x : Blk} (ha : ∀ y ∈ acc, goodB v y = true) (hx : goodB v x = true) : okB (sortB acc) x = freeB (acc.flatMap pairsL) x := by
  rw [← okB_free (v := v) (fun y hy => ha y (sortB_mem.1 hy)) hx, freeB_sort]
def fillF (v : Int) (bs : List Blk) : Int × List Blk × Int :=
  if isSysImpl v bs then (v, sortB (fillGo bs (restA bs v.toNat v.toNat)), 0) else (0, [], 1)
end Go.Proofs.Ytiomdfhhejdoiaa

namespace Go.Proofs.Ytiomdfhhejdoiaa
def dblB (v : Int) (x : Blk) : List Blk := [⟨x.a, v + x.b, v + x.c⟩, ⟨x.b, v + x.a, v + x.c⟩, ⟨x.c, v + x.a, v + x.b⟩]
def dblP (v : Int) (k : Nat) : List Blk := (List.range k).map fun (a : Nat) => ⟨(a : Int), v + (a : Int), 2 * v⟩
theorem dblP_succ (v : Int) (k : Nat) : dblP v (k + 1) = dblP v k ++ [⟨(k : Int), v + (k : Int), 2 * v⟩] := by simp [dblP, List.range_succ]
theorem dblP_len (v : Int) (k : Nat) : (dblP v k).length = k := by simp [dblP]
def dblA (v : Int) (bs : List Blk) (k : Nat) : List Blk := bs ++ (bs.take k).flatMap (dblB v)
theorem dblA_succ {v : Int} {bs : List Blk} {k : Nat} (hk : k < bs.length) {x : Blk} (hx : bs[k]? = some x) : dblA v bs (k + 1) = dblA v bs k ++ dblB v x := by
  have e : bs[k] = x := by
    rw [List.getElem?_eq_getElem hk] at hx
    simpa using hx
  unfold dblA
  rw [List.take_succ_eq_append_getElem hk, e, List.flatMap_append, List.append_assoc]
  simp
theorem dblB_len (v : Int) : ∀ l : List Blk, (l.flatMap (dblB v)).length = 3 * l.length
  | [] => rfl
  | x :: r => by rw [List.flatMap_cons, List.length_append, dblB_len v r]; simp [dblB]; omega
theorem dblA_len (v : Int) (bs : List Blk) {k : Nat} (hk : k ≤ bs.length) : (dblA v bs k).length = bs.length + 3 * k := by
  unfold dblA
  rw [List.length_append, dblB_len, List.length_take, Nat.min_eq_left hk]
def dblL (v : Int) (bs : List Blk) : List Blk := dblA v bs bs.length ++ dblP v v.toNat
theorem dblL_len (v : Int) (bs : List Blk) : (dblL v bs).length = bs.length + 3 * bs.length + v.toNat := by
  unfold dblL
  rw [List.length_append, dblA_len v bs (Nat.le_refl _), dblP_len]
theorem dblL_mem {v : Int} (hv : 0 ≤ v) (hv15 : v ≤ 15) {bs : List Blk} (hg : ∀ x ∈ bs, goodB v x = true) : ∀ x ∈ dblL v bs, (0 ≤ x.a ∧ x.a ≤ 1000) ∧ (0 ≤ x.b ∧ x.b ≤ 1000) ∧ (0 ≤ x.c ∧ x.c ≤ 1000) := by
  intro x hx
  unfold dblL dblA at hx
  rw [List.take_length] at hx
  rcases List.mem_append.1 hx with hx | hx
  · rcases List.mem_append.1 hx with hx | hx
    · have := goodB_iff.1 (hg x hx); omega
    · obtain ⟨y, hy, hxy⟩ := List.mem_flatMap.1 hx
      have := goodB_iff.1 (hg y hy)
      simp only [dblB, List.mem_cons, List.not_mem_nil, or_false] at hxy
      rcases hxy with rfl | rfl | rfl <;> (dsimp only; omega)
  · obtain ⟨a, ha, rfl⟩ := List.mem_map.1 hx
    have := List.mem_range.1 ha
    dsimp only
    omega
/-- The smallest, the middle and the greatest of three. -/
def blk3 (a b c : Int) : Blk := ⟨min (min a b) c, a + b + c - min (min a b) c - max (max a b) c, max (max a b) c⟩
theorem blk3_of {a b c p q r : Int} (hp : p = min (min a b) c) (hr : r = max (max a b) c) (hq : q = a + b + c - p - r) : blk3 a b c = ⟨p, q, r⟩ := by
  unfold blk3
  rw [← hp, ← hr, ← hq]
end Go.Proofs.Ytiomdfhhejdoiaa

namespace Go.Proofs.Ytiomdfhhejdoiaa
open Go.RowKit Go.Maps Go.Sort
theorem heap_set_own {w : World} {g o : Nat} {u : Value} {cs : Array Value} {e : TypeId} {fr : Nat × Nat} (h : w.heap[g]? = some (.cells cs e fr)) : (w.setCell ⟨g, o, none⟩ u).heap[g]? = some (.cells (cs.setIfInBounds o u) e fr) := by
  obtain ⟨hlt, hk⟩ := Array.getElem?_eq_some_iff.1 h
  show (w.heap.modify g _)[g]? = _
  rw [Array.getElem?_eq_getElem (by rw [Array.size_modify]; exact hlt), Array.getElem_modify_self, hk]
  rfl
theorem flat_set : ∀ (bs : List Blk) (i : Nat) (x : Blk), i < bs.length → (((bs.flatMap cells3).set (i * 3) (.int .i64 x.a)).set (i * 3 + 1) (.int .i64 x.b)).set (i * 3 + 2) (.int .i64 x.c) = (bs.set i x).flatMap cells3
  | [], _, _, h => by simp at h
  | y :: r, 0, x, _ => by simp [cells3]
  | y :: r, i + 1, x, h => by
    have ih := flat_set r i x (by simpa using h)
    rw [List.set_cons_succ, List.flatMap_cons, List.flatMap_cons, ← ih]
    rw [show (i + 1) * 3 = i * 3 + 1 + 1 + 1 by omega, show i * 3 + 1 + 1 + 1 + 1 = i * 3 + 1 + 1 + 1 + 1 from rfl, show i * 3 + 1 + 1 + 1 + 2 = i * 3 + 2 + 1 + 1 + 1 by omega]
    simp only [cells3, List.cons_append, List.nil_append, List.set_cons_succ]
theorem OwnR.set3 {w : World} {base g n cap : Nat} {bs : List Blk} (h : OwnR w base (.slice (some ⟨g, 0, none⟩) n cap) bs) {i : Nat} (hi : i < bs.length) (x : Blk) :
    OwnR (((w.setCell ⟨g, i * 3, none⟩ (.int .i64 x.a)).setCell ⟨g, i * 3 + 1, none⟩ (.int .i64 x.b)).setCell ⟨g, i * 3 + 2, none⟩ (.int .i64 x.c)) base (.slice (some ⟨g, 0, none⟩) n cap) (bs.set i x) := by
  obtain ⟨hl, h | ⟨g', cap', cur, hv, hb, hcur, hn, hc, hsz, hx⟩⟩ := h
  · cases h.1
  · cases hv
    refine ⟨by rw [flat_length, List.length_set], .inr ⟨g, cap, _, by rw [List.length_set], hb, heap_set_own (heap_set_own (heap_set_own hcur)), by rw [List.length_set]; exact hn, hc, by simpa using hsz, ?_⟩⟩
    rw [List.length_set, Array.toList_setIfInBounds, Array.toList_setIfInBounds, Array.toList_setIfInBounds, List.take_set, List.take_set, List.take_set, hx]
    exact flat_set bs i x hi
theorem OwnR.at_ {w : World} {base g n cap : Nat} {bs : List Blk} (h : OwnR w base (.slice (some ⟨g, 0, none⟩) n cap) bs) : n = bs.length ∧ base ≤ g ∧ OwnAt w g bs := by
  rcases h.res with ⟨rfl, a, c, e⟩ | ⟨g', cap', e, h1, h2, h3⟩
  · cases e
    obtain ⟨hl, h | ⟨g', cap', cur, hv, hb, hcur, hn, hc, hsz, hx⟩⟩ := h
    · cases h.1
    · cases hv
      exact ⟨rfl, hb, ⟨(Array.getElem?_eq_some_iff.1 hcur).1, fun k hk => by simp at hk, fun o => by simp [World.frozen?, hcur]⟩⟩
  · cases e
    exact ⟨rfl, h1, h3⟩

theorem heap_put {w : World} {g n : Nat} {os : Array Obj} {cur : Array Value} {e : TypeId} {fr : Nat × Nat} (F : Array Value) (hb : w.heap[g]? = some (.cells cur e fr)) :
    (grow (putRow id (Sort.ahead w n) g 0 F) os).heap[g]? = some (.cells (putCells id 0 F cur) e fr) := by
  have hg : g < w.heap.size := (Array.getElem?_eq_some_iff.1 hb).1
  rw [heap_grow_old _ _ (by simpa using hg)]
  simp [putRow, mapBlock, Sort.ahead, Array.getElem?_modify, hb, onCells]
theorem grownBy_put {w : World} {g n : Nat} {os : Array Obj} (F : Array Value) : w.grownBy (grow (putRow id (Sort.ahead w n) g 0 F) os) (some g) := by
  refine ⟨rfl, rfl, rfl, by simp, fun k hk hne => ?_⟩
  rw [heap_grow_old _ _ (by simpa using hk)]
  have : g ≠ k := fun e => hne (by rw [e])
  simp [putRow, mapBlock, Sort.ahead, Array.getElem?_modify, this]
theorem take_put (cur F : Array Value) (h : F.size ≤ cur.size) : (putCells id 0 F cur).toList.take F.size = F.toList := by
  apply List.ext_getElem?
  intro j
  by_cases hj : j < F.size
  · rw [List.getElem?_take_of_lt hj, Array.getElem?_toList]
    simp [putCells, hj, show j < cur.size by omega]
  · rw [List.getElem?_take_eq_none (by omega), List.getElem?_eq_none (by simp; omega)]
theorem cells3_at (x : Blk) : (cells3 x)[0]! = .int .i64 x.a ∧ (cells3 x)[1]! = .int .i64 x.b ∧ (cells3 x)[2]! = .int .i64 x.c := ⟨rfl, rfl, rfl⟩
theorem flatK_at (bs : List Blk) (j : Nat) (h : j < bs.length * 3) : (flatK cells3 3 bs.toArray)[j]! = (bs.flatMap cells3)[j]?.getD undef := by
  rw [get_flatK _ _ _ _ (by simpa using h)]
  have hk : j / 3 < bs.length := by omega
  obtain ⟨h0, h1, h2⟩ := flat_at bs (j / 3) hk
  obtain ⟨c0, c1, c2⟩ := cells3_at (bs.toArray[j / 3]!)
  have e : bs.toArray[j / 3]! = bs[j / 3]?.getD default := by simp [hk]
  rw [e] at c0 c1 c2
  rw [e]
  have hm : j % 3 = 0 ∨ j % 3 = 1 ∨ j % 3 = 2 := by omega
  rcases hm with hm | hm | hm
  · rw [hm, c0]; rw [show j / 3 * 3 = j by omega] at h0; rw [h0]; rfl
  · rw [hm, c1]; rw [show j / 3 * 3 + 1 = j by omega] at h1; rw [h1]; rfl
  · rw [hm, c2]; rw [show j / 3 * 3 + 2 = j by omega] at h2; rw [h2]; rfl
theorem flatK_list (bs : List Blk) : (flatK cells3 3 bs.toArray).toList = bs.flatMap cells3 := by
  apply List.ext_getElem?
  intro j
  by_cases hj : j < bs.length * 3
  · have h1 := flatK_at bs j hj
    have hs : j < (flatK cells3 3 bs.toArray).size := by rw [size_flatK]; simpa using hj
    rw [getElem!_pos _ j hs] at h1
    rw [Array.getElem?_toList, Array.getElem?_eq_getElem hs, h1]
    have hf : j < (bs.flatMap cells3).length := by rw [flat_length]; exact hj
    rw [List.getElem?_eq_getElem hf]
    rfl
  · have h1 : (flatK cells3 3 bs.toArray).toList.length = bs.length * 3 := by rw [Array.length_toList, size_flatK]; simp
    rw [List.getElem?_eq_none (by omega), List.getElem?_eq_none (by rw [flat_length]; omega)]
theorem OwnAt.holds {w : World} {g : Nat} {bs : List Blk} (h : OwnAt w g bs) : HoldsK cells3 3 w g 0 bs.toArray := by
  intro j hj
  rw [size_flatK, List.size_toArray] at hj
  refine ⟨?_, h.free _⟩
  rw [flatK_at bs j hj, Nat.zero_add]
  obtain ⟨h0, h1, h2⟩ := h.at_ (j / 3) (by omega)
  obtain ⟨f0, f1, f2⟩ := flat_at bs (j / 3) (by omega)
  rw [Nat.zero_add] at h0 h1 h2
  have hm : j % 3 = 0 ∨ j % 3 = 1 ∨ j % 3 = 2 := by omega
  rcases hm with hm | hm | hm
  · rw [show j / 3 * 3 = j by omega] at h0 f0; rw [h0, f0]; rfl
  · rw [show j / 3 * 3 + 1 = j by omega] at h1 f1; rw [h1, f1]; rfl
  · rw [show j / 3 * 3 + 2 = j by omega] at h2 f2; rw [h2, f2]; rfl
/-- Behind the sort the same slice owns the blocks in order. -/
theorem OwnR.sorted {w : World} {base g n cap : Nat} {bs cs : List Blk} (h : OwnR w base (.slice (some ⟨g, 0, none⟩) n cap) bs) (hl : cs.length = bs.length) (m : Nat) (os : Array Obj) :
    OwnR (sortWorldK cells3 3 w g 0 m cs.toArray os) base (.slice (some ⟨g, 0, none⟩) n cap) cs ∧ w.grownBy (sortWorldK cells3 3 w g 0 m cs.toArray os) (some g) := by
  refine ⟨?_, grownBy_put _⟩
  obtain ⟨hl2, h | ⟨g', cap', cur, hv, hb, hcur, hn, hc, hsz, hx⟩⟩ := h
  · cases h.1
  · cases hv
    have hF : (flatK cells3 3 cs.toArray).size = cs.length * 3 := by rw [size_flatK]; simp
    refine ⟨by rw [flat_length], .inr ⟨g, cap, _, by rw [hl], hb, heap_put _ hcur, by rw [hl]; exact hn, hc, by simp [putCells]; omega, ?_⟩⟩
    rw [← hF, take_put _ _ (by rw [hF, hl]; have := Nat.mul_le_mul_right 3 hn; omega)]
    exact flatK_list cs
theorem lt_bef (x y : Blk) : ltOf cmpB x y = befB x y := by
  unfold ltOf
  rw [Bool.eq_iff_iff, ← cmpB_neg]
  simp
theorem swoB : SWO (ltOf cmpB) where
  irrefl x := by rw [lt_bef]; exact bef_irrefl x
  trans x y z h1 h2 := by rw [lt_bef] at *; exact bef_trans h1 h2
  ntrans x y z h1 h2 := by rw [lt_bef] at *; exact bef_ntrans h1 h2
theorem totB (x y : Blk) (h1 : ltOf cmpB x y = false) (h2 : ltOf cmpB y x = false) : x = y := by rw [lt_bef] at *; exact bef_total h1 h2
theorem mergeB (bs : List Blk) : (bs.mergeSort fun x y => !ltOf cmpB y x) = sortB bs := by
  rw [← sortB_merge]
  congr 1
  funext x y
  rw [lt_bef]
theorem compareBlocks_lays (x y : Blk) (w : World) : Calls Try.prog 88 #[bv x, bv y] w fun e w' => e = .returned (.int .i64 (cmpB x y)) ∧ ∃ q os, w' = grow (w.drewN q) os := by
  obtain ⟨a, b, c⟩ := x
  obtain ⟨d, e, f⟩ := y
  unfold bv
  dsimp only
  go_enter Try.func88, Try.ntmps88
  go_wp2
  go_quiet ((go_at_call 70; exact RS.quiet (Compare_any _ 0 _ _ 0 _ [a, b, c] [d, e, f] _ (ints3 (by simp [go_sem]) (by simp [go_sem]) (by simp [go_sem])) (ints3 (by simp [go_sem]) (by simp [go_sem]) (by simp [go_sem])) (by simp) (by simp))))
  go_wp2
  go_ret
  exact ⟨rfl, _, _, by rw [alloc_eq_grow, alloc_eq_grow, grow_grow]; rfl⟩
end Go.Proofs.Ytiomdfhhejdoiaa

namespace Go.Proofs.Ytiomdfhhejdoiaa
open Go.RowKit Go.Maps
/-- The value is a slice of just these blocks; of the numbers nothing is said. -/
def SX (w : World) (s : Value) (bs : List Blk) : Prop := (∃ a c, s = .slice a 0 c ∧ bs = []) ∨ ∃ b off cap, s = .slice (some ⟨b, off, none⟩) bs.length cap ∧ b < w.heap.size ∧ Blks w b off bs
theorem SB.sx {w : World} {s : Value} {bs : List Blk} (h : SB w s bs) : SX w s bs := h.2.2
theorem SX.below {w w' : World} {s : Value} {bs : List Blk} (h : SX w s bs) {B : Nat} (hb : Below B w w') (hB : w.heap.size ≤ B) : SX w' s bs := by
  rcases h with h3 | ⟨b, off, cap, rfl, hl, hr⟩
  · exact .inl h3
  · exact .inr ⟨b, off, cap, rfl, by have := hb.size; omega, hr.below hb (by omega)⟩
theorem OwnR.sx {w : World} {base : Nat} {s : Value} {bs : List Blk} (h : OwnR w base s bs) : SX w s bs := by
  rcases h.res with ⟨rfl, a, c, rfl⟩ | ⟨g, cap, rfl, _, _, ho⟩
  · exact .inl ⟨a, c, rfl, rfl⟩
  · exact .inr ⟨g, 0, cap, rfl, ho.lt, ho.at_⟩
theorem OwnR.form {w : World} {base : Nat} {s : Value} {bs : List Blk} (h : OwnR w base s bs) : ∃ a c, s = .slice a bs.length c := by
  rcases h.res with ⟨rfl, a, c, rfl⟩ | ⟨g, cap, rfl, _⟩ <;> exact ⟨_, _, rfl⟩
theorem blks_flat {w : World} {b off : Nat} {bs : List Blk} (h : Blks w b off bs) (j : Nat) (u : Value) (hu : (bs.flatMap cells3)[j]? = some u) : w.cell? ⟨b, off + j, none⟩ = some u := by
  have hj : j < bs.length * 3 := by
    rw [← flat_length]
    exact (List.getElem?_eq_some_iff.1 hu).1
  obtain ⟨h0, h1, h2⟩ := h (j / 3) (by omega)
  obtain ⟨f0, f1, f2⟩ := flat_at bs (j / 3) (by omega)
  have hm : j % 3 = 0 ∨ j % 3 = 1 ∨ j % 3 = 2 := by omega
  rcases hm with hm | hm | hm
  · rw [show j / 3 * 3 = j by omega] at f0
    rw [show off + j / 3 * 3 = off + j by omega] at h0
    rw [h0, ← hu, f0]
  · rw [show j / 3 * 3 + 1 = j by omega] at f1
    rw [show off + j / 3 * 3 + 1 = off + j by omega] at h1
    rw [h1, ← hu, f1]
  · rw [show j / 3 * 3 + 2 = j by omega] at f2
    rw [show off + j / 3 * 3 + 2 = off + j by omega] at h2
    rw [h2, ← hu, f2]
theorem flat_one (bs : List Blk) : ∀ u ∈ bs.flatMap cells3, u.oneCell' = true := by
  intro u hu
  obtain ⟨x, _, hx⟩ := List.mem_flatMap.1 hu
  simp [cells3] at hx
  rcases hx with rfl | rfl | rfl <;> rfl
theorem run_append_many (w : World) (ty : TypeId) (base : Nat) (v : Value) (bs : List Blk) (hown : OwnR w base v bs) (x : Value) (cs : List Blk) (hx : SX w x cs) (hl : bs.length + cs.length ≤ 2200000) (hb : base ≤ w.heap.size) :
    ∃ v' w', (Builtin.append_ #[29, 29] ty #[v, x]).run Try.prog w = .ok v' w' ∧ OwnR w' base v' (bs ++ cs) ∧ w.grownBy w' v.ownBlock := by
  obtain ⟨i0, hi, hz0, hz1, hz2⟩ := info_parts infoBlock
  have key : ∀ (a : Addr) (m c : Nat) (news : List Value), x = .slice (some a) m c → m = cs.length → news = cs.flatMap cells3 → (∀ j u, news[j]? = some u → w.cell? (a.add j) = some u) →
      ∃ v' w', (Builtin.append_ #[29, 29] ty #[v, x]).run Try.prog w = .ok v' w' ∧ OwnR w' base v' (bs ++ cs) ∧ w.grownBy w' v.ownBlock := by
    intro a m c news ex em en hn
    subst ex
    subst en
    subst em
    obtain ⟨v', w', h1, h2, h3, _⟩ := run_append_own_at (P := Try.prog) w base 29 ty 68 i0 _ 3 24 Try.underlying29 hi hz0 hz1 hz2 rfl (by decide) v bs.length (bs.flatMap cells3) hown a cs.length c (cs.flatMap cells3) (flat_length cs) hn (flat_one cs) (by unfold maxLen; omega) (by omega) hb
    exact ⟨v', w', h1, by unfold OwnR; rw [List.length_append, List.flatMap_append]; exact h2, h3⟩
  rcases hx with ⟨a, c, rfl, rfl⟩ | ⟨b, off, cap, rfl, _, hbl⟩
  · cases a with
    | some a => exact key a 0 c [] rfl rfl rfl (by simp)
    | none =>
      refine ⟨v, w, ?_, by rw [List.append_nil]; exact hown, only_refl _ _⟩
      obtain ⟨a, c', rfl⟩ := hown.form
      have hroom : bs.length ≤ c' := by
        rcases hown.2 with ⟨h, h0⟩ | ⟨g, cap, cur, h, _, _, hn, _⟩
        · rw [h0]; exact Nat.zero_le _
        · simp at h; omega
      have hc : ∀ W : World, (Builtin.lenOf (.slice none 0 c)).run Try.prog W = .ok 0 W := fun _ => rfl
      have hc2 : ∀ W : World, (Builtin.firstCells 3 0 (.slice none 0 c)).run Try.prog W = .ok #[] W := fun _ => rfl
      simp [Builtin.append_, run_underlying Try.underlying29, sizeOf, typeInfo, hi, hz1, hc, hc2, hroom]
      cases a <;> rfl
  · refine key ⟨b, off, none⟩ cs.length cap (cs.flatMap cells3) rfl rfl rfl fun j u hu => ?_
    rw [addr_at]
    exact blks_flat hbl j u hu
theorem wp_append_many {w : World} {o : Oper} {a : Act} {K : Act → World → Prop} {Q : Exit → Act → World → Prop} (s x : Operand)
    (ho : o.op = .call { callee := .builtin .append, args := #[s, x], argTypes := #[29, 29] })
    (base : Nat) (v : Value) (bs : List Blk) (hs : a.eval s = v) (hown : OwnR w base v bs) (xv : Value) (cs : List Blk) (hxv : a.eval x = xv) (hx : SX w xv cs) (hl : bs.length + cs.length ≤ 2200000) (hb : base ≤ w.heap.size)
    (h : ∀ (a' : Option Addr) (c' : Nat) (w' : World), OwnR w' base (.slice a' (bs.length + cs.length) c') (bs ++ cs) → w.grownBy w' v.ownBlock → K (a.put o.dst (.slice a' (bs.length + cs.length) c')) w') : o.wp Try.prog a w K Q := by
  obtain ⟨v', w', hr, h2, h3⟩ := run_append_many w o.type base v bs hown xv cs hx hl hb
  obtain ⟨a', c', hv⟩ := h2.form
  rw [List.length_append] at hv
  subst hv
  unfold Oper.wp execOp
  simp only [ho, resolve, invoke, builtin, Sem.run_bind, Sem.run_pure, Result.andThen_ok, List.map_toArray, List.map_cons, List.map_nil, hs, hxv, hr]
  exact h a' c' w' h2 h3
theorem wpList_append_many {w : World} {ops : Array Oper} {rest : List Oper} {o : Oper} {a : Act} {Q : Exit → Act → World → Prop} (hgd : o.guard = none) (s x : Operand)
    (ho : o.op = .call { callee := .builtin .append, args := #[s, x], argTypes := #[29, 29] })
    (base : Nat) (v : Value) (bs : List Blk) (hs : a.eval s = v) (hown : OwnR w base v bs) (xv : Value) (cs : List Blk) (hxv : a.eval x = xv) (hx : SX w xv cs) (hl : bs.length + cs.length ≤ 2200000) (hb : base ≤ w.heap.size)
    (h : ∀ (a' : Option Addr) (c' : Nat) (w' : World), OwnR w' base (.slice a' (bs.length + cs.length) c') (bs ++ cs) → w.grownBy w' v.ownBlock → wpList Try.prog ops Q rest (a.put o.dst (.slice a' (bs.length + cs.length) c')) w') : wpList Try.prog ops Q (o :: rest) a w :=
  wpList_plain hgd fun _ hK => wp_append_many s x ho base v bs hs hown xv cs hxv hx hl hb fun a' c' w' h1 h2 => hK _ _ (h a' c' w' h1 h2)
theorem step_append_many {w : World} {ops : Array Oper} {o : Oper} {a : Act} {K : Act → World → Prop} {Q : Exit → Act → World → Prop} {E : Prop} (hgd : o.guard = none) (s x : Operand)
    (ho : o.op = .call { callee := .builtin .append, args := #[s, x], argTypes := #[29, 29] })
    (base : Nat) (v : Value) (bs : List Blk) (hs : a.eval s = v) (hown : OwnR w base v bs) (xv : Value) (cs : List Blk) (hxv : a.eval x = xv) (hx : SX w xv cs) (hl : bs.length + cs.length ≤ 2200000) (hb : base ≤ w.heap.size)
    (h : ∀ (a' : Option Addr) (c' : Nat) (w' : World), OwnR w' base (.slice a' (bs.length + cs.length) c') (bs ++ cs) → w.grownBy w' v.ownBlock → K (a.put o.dst (.slice a' (bs.length + cs.length) c')) w') :
    if Region.wanted o (yielded ops a.tmps) = true then Oper.wp Try.prog o a w K Q else E := by
  have hw : Region.wanted o (yielded ops a.tmps) = true := by simp [Region.wanted, hgd]
  rw [if_pos hw]
  exact wp_append_many s x ho base v bs hs hown xv cs hxv hx hl hb h
end Go.Proofs.Ytiomdfhhejdoiaa

namespace Go.Proofs.Ytiomdfhhejdoiaa
open Go.RowKit Go.Maps
theorem gb_trans {a b c : World} {row : Option Nat} (h : a.grownBy b none) (k : b.grownBy c row) : a.grownBy c row :=
  ⟨k.os.trans h.os, k.tape.trans h.tape, k.output.trans h.output, Nat.le_trans h.size k.size, fun i hi hne => (k.block i (Nat.lt_of_lt_of_le hi h.size) hne).trans (h.block i hi (by simp))⟩
theorem gb_below {a b : World} (h : Below a.heap.size a b) : a.grownBy b none := only_of_below h none
theorem ResR.slice {w : World} {lo hi : Nat} {s : Value} {bs : List Blk} (h : ResR w lo hi s bs) : ∃ a c, s = .slice a bs.length c := by
  rcases h with ⟨rfl, a, c, rfl⟩ | ⟨g, cap, rfl, _⟩ <;> exact ⟨_, _, rfl⟩
set_option maxRecDepth 100000 in
theorem markSystem_any (lo hi : Nat) (v : Int) (s : Value) (bs : List Blk) (k : Int) (w : World) (h : ResR w lo hi s bs) (hl : bs.length ≤ 1100000) (h0 : 0 ≤ k) (h1 : k ≤ 9000000) :
    Calls Try.prog 18 #[.agg #[.int .i64 v, s], .int .i64 k] w (fun e w' => e = .returned (.int .i64 (k + 3 * bs.length)) ∧ (∃ row, w.grownBy w' row ∧ ∀ r, row = some r → lo ≤ r ∧ r < hi) ∧ ResR w' lo hi s (markL k bs.length)) := by
  have hc := markR lo hi s bs k (w.alloc (.cells #[.int .i64 v, s] 31)) (h.below ((Below.refl _ _).alloc (Nat.le_refl _) _) (Nat.le_refl _)) hl h0 h1
  have hs := h.slice
  have HC := Lib.hid hc
  clear hc h
  obtain ⟨a, c, rfl⟩ := hs
  go_enter Try.func18, Try.ntmps18
  go_wp2_with (go_at_call 50; refine HC.out.mono ?_; rintro e w1 ⟨rfl, hg, hr⟩)
  go_ret
  obtain ⟨row, hg, hrow⟩ := hg
  exact ⟨rfl, ⟨row, gb_trans (World.grownBy_alloc _ _ none) hg, hrow⟩, hr⟩
set_option maxRecDepth 100000 in
theorem heldSystem_any (lo hi : Nat) (v : Int) (s : Value) (n : Nat) (k : Int) (w : World) (h : ResR w lo hi s (markL k n)) (hl : n ≤ 1100000) (h0 : 0 ≤ k) (h1 : k ≤ 9000000) :
    Calls Try.prog 25 #[.agg #[.int .i64 v, s], .int .i64 k] w (RV (.int .i64 (k + 3 * n)) w) := by
  have hc := heldR lo hi s n k (w.alloc (.cells #[.int .i64 v, s] 31)) (h.below ((Below.refl _ _).alloc (Nat.le_refl _) _) (Nat.le_refl _)) hl h0 h1
  have hs := h.slice
  obtain ⟨m, hm⟩ : ∃ m, m = k + 3 * (n : Int) := ⟨_, rfl⟩
  rw [← hm] at hc ⊢
  have m0 : 0 ≤ m := by omega
  have HC := Lib.hid hc
  clear hc h hm
  obtain ⟨a, c, rfl⟩ := hs
  go_enter Try.func25, Try.ntmps25
  go_wp2_with (go_at_call 61; refine HC.out.mono ?_; rintro e w1 ⟨rfl, rfl⟩)
  go_ret
  exact RV_of rfl ((Below.refl _ _).alloc (Nat.le_refl _) _)
end Go.Proofs.Ytiomdfhhejdoiaa

namespace Go.Proofs.Ytiomdfhhejdoiaa
open Go.RowKit Go.Maps
theorem sizeInt64 (w : World) : (sizeOf 2).run Try.prog w = .ok 1 w := by kernel_rfl
theorem partInt64 (x y z : Value) (w : World) : (part 2 #[x, y, z] 0).run Try.prog w = .ok x w ∧ (part 2 #[x, y, z] 1).run Try.prog w = .ok y w ∧ (part 2 #[x, y, z] 2).run Try.prog w = .ok z w := by
  refine ⟨?_, ?_, ?_⟩ <;> kernel_rfl
theorem eqIn64 (d : Nat) (a b : Int) (w : World) : (Op.equalIn (d + 1) 2 (.int .i64 a) (.int .i64 b)).run Try.prog w = .ok (a == b) w := by
  simp [Op.equalIn, run_underlying Try.underlying2]
theorem eqInBlk (n : Nat) (a b c d e f : Int) (w : World) : (Op.equalIn (n + 1 + 1) 68 (.agg #[.int .i64 a, .int .i64 b, .int .i64 c]) (.agg #[.int .i64 d, .int .i64 e, .int .i64 f])).run Try.prog w = .ok (a == d && b == e && c == f) w := by
  rw [Op.equalIn]
  simp only [Sem.run_bind, run_underlying Try.underlying68, Result.andThen_ok, sizeInt64]
  simp [Std.Legacy.Range.forIn_eq_forIn_range', Std.Legacy.Range.size, List.range', partInt64, eqIn64, Sem.run_ite]
  by_cases h1 : a = d <;> by_cases h2 : b = e <;> by_cases h3 : c = f <;> simp [h1, h2, h3]
theorem run_eql_blk (x y : Blk) (w : World) : (binOp .eql 68 (bv x) (bv y)).run Try.prog w = .ok (.bool (decide (x = y))) w := by
  obtain ⟨a, b, c⟩ := x
  obtain ⟨d, e, f⟩ := y
  simp only [bv, binOp]
  simp [Op.equal, Op.maxDepth, eqInBlk 9998]
  by_cases h1 : a = d <;> by_cases h2 : b = e <;> by_cases h3 : c = f <;> simp [h1, h2, h3]
theorem run_neq_blk (x y : Blk) (w : World) : (binOp .neq 68 (bv x) (bv y)).run Try.prog w = .ok (.bool (!decide (x = y))) w := by
  obtain ⟨a, b, c⟩ := x
  obtain ⟨d, e, f⟩ := y
  simp only [bv, binOp]
  simp [Op.equal, Op.maxDepth, eqInBlk 9998]
  by_cases h1 : a = d <;> by_cases h2 : b = e <;> by_cases h3 : c = f <;> simp [h1, h2, h3]
end Go.Proofs.Ytiomdfhhejdoiaa

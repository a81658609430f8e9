/- The model's list of the blocks that can be put in. -/
import Derived.Test.YtomcjifklggcnaaFree3
import Derived.Test.YtomcjifklggcnaaAll1
import Derived.Test.YtomcjifklggcnaaRowb
import Derived.Test.YtomcjifklggcnaaSeq5
namespace Go.Proofs.Ytomcjifklggcnaa
open Go.RowKit Go.Maps
theorem OwnR.new0 (W : World) {base : Nat} (hb : base ≤ W.heap.size) : OwnR (W.alloc (.cells #[] 60)) base (.slice (some ⟨W.heap.size, 0, none⟩) 0 0) [] :=
  ⟨rfl, .inr ⟨W.heap.size, 0, #[], rfl, hb, World.alloc_heap_new W _, Nat.le_refl _, Nat.zero_le _, rfl, rfl⟩⟩
def restA (bs : List Blk) (v a : Nat) : List Blk := (rowA v a).filter (okB bs)
def restB (bs : List Blk) (v a n : Nat) : List Blk := restA bs v a ++ (rowB v a n).filter (okB bs)
def restC (bs : List Blk) (v a b n : Nat) : List Blk := restB bs v a (b - (a + 1)) ++ (rowC a b n).filter (okB bs)
theorem restA_succ (bs : List Blk) (v a : Nat) : restA bs v (a + 1) = restB bs v a (v - (a + 1)) := by unfold restB restA; rw [rowA_succ, List.filter_append]
theorem restB_succ (bs : List Blk) (v a b : Nat) (h : a + 1 ≤ b) : restB bs v a (b + 1 - (a + 1)) = restC bs v a b (v - (b + 1)) := by
  unfold restC restB
  rw [show b + 1 - (a + 1) = (b - (a + 1)) + 1 by omega, rowB_succ, List.filter_append, ← List.append_assoc, show a + 1 + (b - (a + 1)) = b by omega]
theorem restC_succ (bs : List Blk) (v a b c : Nat) (h : b + 1 ≤ c) : restC bs v a b (c + 1 - (b + 1)) = restC bs v a b (c - (b + 1)) ++ if okB bs ⟨(a : Int), (b : Int), (c : Int)⟩ then [⟨(a : Int), (b : Int), (c : Int)⟩] else [] := by
  unfold restC
  rw [show c + 1 - (b + 1) = (c - (b + 1)) + 1 by omega, rowC_succ, List.filter_append, ← List.append_assoc, show b + 1 + (c - (b + 1)) = c by omega]
  congr 1
  simp [List.filter_cons]
theorem restB_start (bs : List Blk) (v a : Nat) : restB bs v a (a + 1 - (a + 1)) = restA bs v a := by simp [restB, rowB]
theorem restC_start (bs : List Blk) (v a b : Nat) : restC bs v a b (b + 1 - (b + 1)) = restB bs v a (b - (a + 1)) := by simp [restC, rowC]
theorem restC_len {bs : List Blk} {v a b n : Nat} (hv : v ≤ 15) (ha : a ≤ 15) (hb : b ≤ 15) (hn : n ≤ 15) : (restC bs v a b n).length ≤ 4000 := by
  have h1 := rowA_len (v := v) (n := a) hv
  have h2 := rowB_len (v := v) (a := a) (n := b - (a + 1)) hv
  have h3 := rowC_len a b n
  have f1 := List.length_filter_le (okB bs) (rowA v a)
  have f2 := List.length_filter_le (okB bs) (rowB v a (b - (a + 1)))
  have f3 := List.length_filter_le (okB bs) (rowC a b n)
  unfold restC restB restA
  simp only [List.length_append]
  omega
set_option maxRecDepth 100000 in
set_option maxHeartbeats 1000000 in
theorem l01Rest_any (v : Nat) (hv : v ≤ 15) (s : Value) (bs : List Blk) (w : World) (h : SB w s bs) :
    Calls Try.prog 97 #[.agg #[.int .i64 (v : Int), s]] w fun e w' => ∃ u, e = .returned u ∧ OwnR w' w.heap.size u (restA bs v v) ∧ Below w.heap.size w w' := by
  have hs := h.slice
  have HF := Lib.hid fun (x : Blk) W (hb : Below w.heap.size w W) => l01Free_any (v : Int) s bs x W (h.below hb (Nat.le_refl _))
  clear h
  obtain ⟨a0, c0, rfl⟩ := hs
  go_enter Try.func97, Try.ntmps97
  go_wp2
  have ho0 := OwnR.new0 (w.alloc (.cells #[.int .i64 (v : Int), .slice a0 bs.length c0] 29)) (base := w.heap.size + 1) (by simp)
  rw [World.size_alloc] at ho0
  obtain ⟨w2, hw2⟩ : ∃ w2, (w.alloc (.cells #[.int .i64 (v : Int), .slice a0 bs.length c0] 29)).alloc (.cells #[] 60) = w2 := ⟨_, rfl⟩
  have hB0 : Below w.heap.size w w2 := by rw [← hw2]; exact ((Below.refl _ _).alloc (Nat.le_refl _) _).alloc (by simp) _
  have hz2 : w2.heap.size = w.heap.size + 1 + 1 := by rw [← hw2]; simp
  have k0 : w2.cell? ⟨w.heap.size, 0, none⟩ = some (.int .i64 (v : Int)) := by rw [← hw2]; exact cell_past (new_at 0 rfl) (by simp)
  have k1 : w2.cell? ⟨w.heap.size, 1, none⟩ = some (.slice a0 bs.length c0) := by rw [← hw2]; exact cell_past (new_at 1 rfl) (by simp)
  rw [hw2] at ho0 ⊢
  have HO0 := Lib.hid ho0
  clear hw2 ho0
  go_loopw [3, 4] (fun o i wr => ∃ a : Nat, a ≤ v ∧ i = .int .i64 a ∧ Below (w.heap.size + 1) w2 wr ∧ OwnR wr (w.heap.size + 1) o (restA bs v a) ∧ ∃ p n c, o = .slice p n c) (fun _ i _ => v - (intOf i).toNat)
  case atStart => exact ⟨0, Nat.zero_le _, rfl, Below.refl _ _, HO0.out, _, _, _, rfl⟩
  case round =>
    obtain ⟨a, ha, rfl, hB, hO, hform⟩ := hrel
    have r0 : wr.cell? ⟨w.heap.size, 0, none⟩ = some (.int .i64 (v : Int)) := by rw [hB.cell (by simp)]; exact k0
    obtain ⟨a3, n3, c3, rfl⟩ := hform
    have HO := Lib.hid hO
    clear hO
    by_cases hav : a < v
    · go_wp2
      obtain ⟨wo, hwo⟩ : ∃ wo : World, wo = wr := ⟨_, rfl⟩
      rw [← hwo] at hB HO r0 ⊢
      clear hwo
      go_loopw [3, 5] (fun o i wr => ∃ b : Nat, a + 1 ≤ b ∧ b ≤ v ∧ i = .int .i64 b ∧ Below (w.heap.size + 1) w2 wr ∧ OwnR wr (w.heap.size + 1) o (restB bs v a (b - (a + 1))) ∧ ∃ p n c, o = .slice p n c) (fun _ i _ => v - (intOf i).toNat)
      case atStart => exact ⟨a + 1, Nat.le_refl _, by omega, int_eq (by omega), hB, by rw [restB_start]; exact HO.out, _, _, _, rfl⟩
      case round =>
        obtain ⟨b, hab, hb, rfl, hB1, hO, hform⟩ := hrel
        have r1 : wr.cell? ⟨w.heap.size, 0, none⟩ = some (.int .i64 (v : Int)) := by rw [hB1.cell (by simp)]; exact k0
        obtain ⟨a4, n4, c4, rfl⟩ := hform
        have HO1 := Lib.hid hO
        clear hO
        by_cases hbv : b < v
        · go_wp2
          obtain ⟨wo1, hwo⟩ : ∃ wo : World, wo = wr := ⟨_, rfl⟩
          rw [← hwo] at hB1 HO1 r1 ⊢
          clear hwo
          go_loopw [3, 6] (fun o i wr => ∃ c : Nat, b + 1 ≤ c ∧ c ≤ v ∧ i = .int .i64 c ∧ Below (w.heap.size + 1) w2 wr ∧ OwnR wr (w.heap.size + 1) o (restC bs v a b (c - (b + 1))) ∧ ∃ p n c, o = .slice p n c) (fun _ i _ => v - (intOf i).toNat)
          case atStart => exact ⟨b + 1, Nat.le_refl _, by omega, int_eq (by omega), hB1, by rw [restC_start]; exact HO1.out, _, _, _, rfl⟩
          case round =>
            obtain ⟨c, hbc, hc, rfl, hB2, hO, hform⟩ := hrel
            have t0 : wr.cell? ⟨w.heap.size, 0, none⟩ = some (.int .i64 (v : Int)) := by rw [hB2.cell (by simp)]; exact k0
            have t1 : wr.cell? ⟨w.heap.size, 1, none⟩ = some (.slice a0 bs.length c0) := by rw [hB2.cell (by simp)]; exact k1
            obtain ⟨a5, n5, c5, rfl⟩ := hform
            have HO2 := Lib.hid hO
            clear hO
            have hz := hB2.size
            have hBw : Below w.heap.size w wr := hB0.trans (hB2.mono (by omega))
            by_cases hcv : c < v
            · have hs := restC_succ bs v a b c hbc
              have hf := HF.out ⟨(a : Int), (b : Int), (c : Int)⟩ wr hBw
              dsimp only [bv] at hf
              have hlen : (restC bs v a b (c - (b + 1))).length ≤ 4000 := restC_len hv (by omega) (by omega) (by omega)
              have HLEN := Lib.hid hlen
              clear hlen
              cases hok : okB bs ⟨(a : Int), (b : Int), (c : Int)⟩ with
              | false =>
                rw [hok] at hf hs
                rw [if_neg (by decide), List.append_nil] at hs
                have HS := Lib.hid hs
                have HFF := Lib.hid hf
                clear hf hs hok
                go_wp2_with (go_at_call 85; refine HFF.out.mono ?_; rintro e w3 ⟨rfl, hb3⟩)
                go_roundw
                case rel => exact ⟨c + 1, by omega, by omega, by go_num, hB2.trans (hb3.mono (by omega)), by rw [HS.out]; exact HO2.out.below hb3 (Nat.le_refl _), _, _, _, rfl⟩
                case measure => simp [intOf]; omega
              | true =>
                rw [hok] at hf hs
                rw [if_pos rfl] at hs
                have HS := Lib.hid hs
                have HFF := Lib.hid hf
                clear hf hs hok
                go_wp2_with fail
                refine HFF.out.mono ?_
                rintro e w3 ⟨rfl, hb3⟩
                have hz3 := hb3.size
                have HO3 := Lib.hid (HO2.out.below hb3 (Nat.le_refl _))
                go_wp2_with (at_builtin; refine wpList_append_blk rfl _ _ rfl (w.heap.size + 1) _ (restC bs v a b (c - (b + 1))) rfl (HO3.out.below ((Below.refl _ _).alloc (Nat.le_refl _) _) (Nat.le_refl _)) _ _ ⟨(a : Int), (b : Int), (c : Int)⟩ rfl (by simp [go_sem]) (by simp [go_sem]) (by simp [go_sem]) (by have := HLEN.out; omega) (by simp; omega) ?_; intro g' cap' w4 hO4 hg4)
                have hrow := HO3.out.row
                have hgo : w3.grownBy w4 (Value.slice a5 n5 c5).ownBlock := ⟨hg4.os, hg4.tape, hg4.output, by have := hg4.size; simp at this; omega, fun i hi hne => by
                  rw [hg4.block i (by simp; omega) hne, Below.heap_alloc _ _ _ hi]⟩
                clear hg4
                have hB3 := hB2.trans (hb3.mono (by omega))
                go_roundw
                case rel => exact ⟨c + 1, by omega, by omega, by go_num, hB3.grown hgo (by omega) (fun j e => hrow j e), by rw [HS.out]; exact hO4, _, _, _, rfl⟩
                case measure => simp [intOf]; omega
            · have e : c = v := by omega
              subst e
              go_wp2
              go_roundw
              case rel => exact ⟨b + 1, by omega, by omega, by go_num, hB2, by rw [restB_succ _ _ _ _ hab]; exact HO2.out, _, _, _, rfl⟩
              case measure => simp [intOf]; omega
        · have e : b = v := by omega
          subst e
          go_wp2
          go_roundw
          case rel => exact ⟨a + 1, by omega, by go_num, hB1, by rw [restA_succ]; exact HO1.out, _, _, _, rfl⟩
          case measure => simp [intOf]; omega
    · have e : a = v := by omega
      subst e
      go_wp2
      go_ret
      exact ⟨_, rfl, ownsRow_base HO.out (by omega), hB0.trans (hB.mono (by omega))⟩
end Go.Proofs.Ytomcjifklggcnaa

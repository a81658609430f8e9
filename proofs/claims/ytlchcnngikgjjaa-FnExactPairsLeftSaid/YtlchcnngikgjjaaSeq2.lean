
/- The iterator over the blocks through a point. -/
import Derived.Test.YtlchcnngikgjjaaSeq1
namespace Go.Proofs.Ytlchcnngikgjjaa
open Go.RowKit Go.Maps Go.Shelf
attribute [local go_sem] Oper.semAt_some
/-- The blocks through p among the first k, each with its index. -/
def upTo (p : Int) (bs : List Blk) (k : Nat) : List (Nat × Blk) := ((List.range k).map fun j => (j, bs[j]?.getD default)).filter fun q => hasB q.2 p
theorem upTo_succ (p : Int) (bs : List Blk) (k : Nat) : upTo p bs (k + 1) = upTo p bs k ++ if hasB (bs[k]?.getD default) p then [(k, bs[k]?.getD default)] else [] := by
  unfold upTo
  rw [List.range_succ, List.map_append, List.filter_append]
  congr 1
  simp [List.filter_cons]
theorem upTo_len (p : Int) (bs : List Blk) (k : Nat) : (upTo p bs k).length ≤ k := by
  unfold upTo
  refine Nat.le_trans (List.length_filter_le _ _) ?_
  simp
/-- What a round that goes on keeps: old memory, and the box at Bp. -/
def KpB (n₀ Bp : Nat) (A B : World) : Prop := Below n₀ A B ∧ ∀ v, A.cell? ⟨Bp, 0, none⟩ = some v → B.cell? ⟨Bp, 0, none⟩ = some v
theorem KpB.refl (n₀ Bp : Nat) (A : World) : KpB n₀ Bp A A := ⟨Below.refl _ _, fun _ h => h⟩
theorem KpB.trans {n₀ Bp : Nat} {A B C : World} (h : KpB n₀ Bp A B) (k : KpB n₀ Bp B C) : KpB n₀ Bp A C := ⟨h.1.trans k.1, fun v hv => k.2 v (h.2 v hv)⟩
theorem KpB.put {n₀ Bp : Nat} {w : World} (hn : n₀ ≤ w.heap.size) (W : World) (l : Nat) (o o' : Obj) (hl : w.heap.size ≤ l) (h : W.heap[l]? = some o) (hc : o.isCells = false) (hw : o.isWalk = false) : KpB n₀ Bp W (W.putObj l o') :=
  ⟨belowK_b hn W l o o' hl h hc hw, fun v hv => cell_kept hv (grownBy_putObj' W l o') (fun r e => by cases e; exact ⟨_, h, hc⟩)⟩
/-- The closure captures the box of the system and the box of the point. -/
theorem blocksWith_any (v : Int) (s : Value) (p : Int) (w : World) : Calls Try.prog 111 #[.agg #[.int .i64 v, s], .int .i64 p] w fun e w' =>
    e = .returned (.func (.func 176) #[] #[.pointer (some ⟨w.heap.size, 0, none⟩), .pointer (some ⟨w.heap.size + 1, 0, none⟩)]) ∧ w' = (w.alloc (.cells #[.int .i64 v, s] 26)).alloc (.cells #[.int .i64 p] 2) := by
  go_enter Try.func111, Try.ntmps111
  go_wp2
  go_ret
  exact ⟨rfl, rfl⟩
theorem RS.quietIn {r : Nat} {P : Program} {f : FuncId} {args : Array Value} {w : World} {n : Nat} {v : Value} (h : Calls P f args (w.drewN n) (RS v (w.drewN n))) :
    CallsIn Fence.wide r P f args (w.drewN n) fun e w'' => e = .returned v ∧ ∃ m, w'' = w.drewN m := callsIn_wide.2 (RS.quiet h)
theorem wide_asked {P : Program} {C : World → Prop} {o : Oper} {a : Act} : o.askedIn Fence.wide P a C := fun _ _ _ _ => trivial
theorem grown_drewN (w : World) (n : Nat) : w.grownBy (w.drewN n) none := ⟨rfl, rfl, rfl, Nat.le_refl _, fun _ _ _ => rfl⟩
theorem cell_drewN {w : World} {p : Addr} {u : Value} (h : w.cell? p = some u) (n : Nat) : (w.drewN n).cell? p = some u := h
theorem yes_no {e : Ending} {p q : Prop} (h : (e = .returned (.bool true) ∧ p) ∨ (e = .returned (.bool false) ∧ q)) : ∃ β, e = .returned (.bool β) ∧ (if β = true then p else q) := by
  rcases h with ⟨rfl, h⟩ | ⟨rfl, h⟩
  · exact ⟨true, rfl, by simpa using h⟩
  · exact ⟨false, rfl, by simpa using h⟩
set_option maxRecDepth 100000 in
set_option maxHeartbeats 2000000 in
theorem with1_in (n : Nat) (hn : 1 ≤ n) (l Bx Bp n₀ b off cap : Nat) (p : Int) (bs : List Blk) (hlen : bs.length ≤ 1100000) (hb : b < n₀) (J Jx : List (Nat × Blk) → World → Prop) (W : World)
    (hJ : AbidesFrom W.heap.size J)
    (hY : ∀ pre x W1, J pre W1 → pre.length < bs.length → YieldAt Fence.wide (n - 1) Try.prog l #[.int .i64 (x.1 : Int), bv x.2] W1 fun e W' =>
      (e = .returned (.bool true) ∧ J (pre ++ [x]) W' ∧ KpB n₀ Bp W1 W') ∨ (e = .returned (.bool false) ∧ Jx (pre ++ [x]) W'))
    (hx1 : W.cell? ⟨Bx, 1, none⟩ = some (.slice (some ⟨b, off, none⟩) bs.length cap)) (hp : W.cell? ⟨Bp, 0, none⟩ = some (.int .i64 p)) (hbl : Blks W b off bs) (_hbn : n₀ ≤ W.heap.size) (hBp : Bp < W.heap.size) (h0 : J [] W) :
    CallsIn Fence.wide n Try.prog 176 #[.func (.yield l) #[] #[], .pointer (some ⟨Bx, 0, none⟩), .pointer (some ⟨Bp, 0, none⟩)] W fun e W' => (∃ v, e = .returned v) ∧
      ((∃ ys, ys = upTo p bs bs.length ∧ J ys W') ∨ (∃ pre, (∃ k, k ≤ bs.length ∧ pre = upTo p bs k) ∧ Jx pre W')) := by
  have hro : Fence.wide.round = none := rfl
  have hmx : Try.prog.follows .mixedOrders = true := by kernel_rfl
  have HJ := Lib.hid hJ
  clear hJ
  refine callsIn_of_wp Try.func176 rfl trivial ?_ hro
  simp only [Try.ntmps176, List.size_toArray, List.length_cons, List.length_nil, Nat.reduceAdd, Nat.reduceSub, Array.replicate_succ, Array.replicate_zero, List.push_toArray, List.append_toArray, List.nil_append, List.cons_append]
  gi_wp2
  gi_loopw [9] (fun i wr => ∃ k : Nat, k ≤ bs.length ∧ i = .int .i64 k ∧ J (upTo p bs k) wr ∧ KpB n₀ Bp W wr ∧ W.heap.size ≤ wr.heap.size)
    (fun i _ => bs.length - (intOf i).toNat)
  case atStart => exact ⟨0, Nat.zero_le _, rfl, h0, KpB.refl _ _ _, Nat.le_refl _⟩
  case round =>
    obtain ⟨k, hk, rfl, hJs, hK, hsz⟩ := hrel
    have hcp := hK.2 _ hp
    have hbl1 : Bp < wr.heap.size := by omega
    have hcp2 : (wr.alloc (.cells #[.int .i64 (bs[k]?.getD default).a, .int .i64 (bs[k]?.getD default).b, .int .i64 (bs[k]?.getD default).c] 62)).cell? ⟨Bp, 0, none⟩ = some (.int .i64 p) := cell_past hcp hbl1
    have hcp3 := (below_drewN (Below.refl (Bp + 1) _) 1).cell (p := ⟨Bp, 0, none⟩) (by simp) |>.trans hcp2
    by_cases hlt : k < bs.length
    · obtain ⟨c1, c2, c3⟩ := (hbl.below hK.1 hb) k hlt
      obtain ⟨x, hx⟩ : ∃ x, x = bs[k]?.getD default := ⟨_, rfl⟩
      rw [← hx] at c1 c2 c3 hcp2 hcp3
      have hsucc := upTo_succ p bs k
      rw [← hx] at hsucc
      have hul := upTo_len p bs k
      have HX := Lib.hid hx
      have HS := Lib.hid hsucc
      clear hx hsucc
      have hcont : ∀ W', W'.cell? ⟨wr.heap.size, 0, none⟩ = some (.int .i64 x.a) → W'.cell? ⟨wr.heap.size, 1, none⟩ = some (.int .i64 x.b) → W'.cell? ⟨wr.heap.size, 2, none⟩ = some (.int .i64 x.c) → Calls Try.prog 177 #[.slice (some ⟨wr.heap.size, 0, none⟩) 3 3, .int .i64 p] W' (RS (.bool (hasB x p)) W') := fun W' g1 g2 g3 => by
        rw [← inL3]
        exact Contains_any wr.heap.size 0 3 [x.a, x.b, x.c] p W' (ints3 g1 g2 g3) (by simp)
      have HC := Lib.hid hcont
      clear hcont
      cases hB : hasB x p with
      | true =>
        rw [hB] at HC HS
        have hJ2 : J (upTo p bs k) (wr.alloc (.cells #[.int .i64 x.a, .int .i64 x.b, .int .i64 x.c] 62)).drew := HJ.out _ _ _ none (HJ.out _ _ _ none hJs (World.grownBy_alloc wr _ none) nofun) ⟨rfl, rfl, rfl, Nat.le_refl _, fun _ _ _ => rfl⟩ nofun
        obtain ⟨fn, tmps, assign, body, hy, hR⟩ := hY _ (k, x) _ hJ2 (by omega)
        dsimp only [bv] at hy
        gi_wp2
        gi_region_with_o (first | (refine ⟨trivial, ?_⟩; gi_at_call 177; refine (callsIn_wide.2 (HC.out _ (by simp) (by simp) (by simp))).mono ?_; rintro e w' ⟨rfl, rfl⟩) | (gi_at_call 177; refine (callsIn_wide.2 (HC.out _ (by simp) (by simp) (by simp))).mono ?_; rintro e w' ⟨rfl, rfl⟩) | (refine hR.mono ?_; intro e W3 hc; obtain ⟨β, rfl, hβ⟩ := yes_no hc; clear hc))
        cases β with
        | true =>
          rw [if_pos rfl] at hβ
          obtain ⟨hJ3, hK3⟩ := hβ
          have hsz3 := hK3.1.size
          simp at hsz3
          gi_wp2
          refine ⟨⟨k + 1, by omega, by simp, by rw [HS.out, if_pos trivial]; exact hJ3, hK.trans (KpB.trans ⟨((Below.refl _ _).alloc (by omega) _).trans (below_drewN (Below.refl _ _) 1), fun u hu => cell_drewN (cell_past hu hbl1) 1⟩ hK3), by omega⟩, by simp [intOf]; omega⟩
        | false =>
          rw [if_neg (by decide)] at hβ
          gi_wp2
          refine bodyPost_ret (results_none rfl _ _ _) rfl ?_
          exact ⟨⟨_, rfl⟩, .inr ⟨_, ⟨k + 1, by omega, by rw [HS.out, if_pos trivial]⟩, hβ⟩⟩
      | false =>
        rw [hB] at HC HS
        gi_wp2
        refine wpIn_region_quiet_lit rfl (by kernel_rfl) (by kernel_rfl) ?_
        repeat (refine wpQuietIn_step (by first | exact wide_asked | quiet_asked_in) (fun K hK => ?_); go_simp; first | (refine hK _ ?_; clear hK K) | (apply Exists.intro; refine ⟨fun _ => ?_, hK _ ?_⟩; (gi_at_call 177; exact RS.quietIn (HC.out _ (by simp [go_sem]) (by simp [go_sem]) (by simp [go_sem]))); clear hK K))
        refine wpQuietIn_nil ?_
        rintro _ ⟨nq, rfl⟩
        gi_wp2
        refine ⟨⟨k + 1, by omega, by simp, by rw [HS.out, if_neg (by decide), List.append_nil]; exact HJ.out _ _ _ none (HJ.out _ _ _ none hJs (World.grownBy_alloc wr _ none) nofun) (grown_drewN _ _) nofun, hK.trans ⟨((Below.refl _ _).alloc (by omega) _).trans (below_drewN (Below.refl _ _) _), fun u hu => (cell_drewN (cell_past hu hbl1) _)⟩, by simp; omega⟩, by simp [intOf]; omega⟩
    · obtain rfl : k = bs.length := by omega
      gi_wp2
      go_end0
      exact ⟨⟨_, rfl⟩, .inl ⟨_, rfl, hJs⟩⟩
set_option maxRecDepth 100000 in
theorem with1_nil_in (n : Nat) (l Bx Bp : Nat) (a0 : Option Addr) (c0 : Nat) (p : Int) (J : List (Nat × Blk) → World → Prop) (W : World) (hx1 : W.cell? ⟨Bx, 1, none⟩ = some (.slice a0 0 c0)) (_hp : W.cell? ⟨Bp, 0, none⟩ = some (.int .i64 p)) (h0 : J [] W) :
    CallsIn Fence.wide n Try.prog 176 #[.func (.yield l) #[] #[], .pointer (some ⟨Bx, 0, none⟩), .pointer (some ⟨Bp, 0, none⟩)] W fun e W' => (∃ v, e = .returned v) ∧ J [] W' := by
  have hro : Fence.wide.round = none := rfl
  refine callsIn_of_wp Try.func176 rfl trivial ?_ hro
  simp only [Try.ntmps176, List.size_toArray, List.length_cons, List.length_nil, Nat.reduceAdd, Nat.reduceSub, Array.replicate_succ, Array.replicate_zero, List.push_toArray, List.append_toArray, List.nil_append, List.cons_append]
  gi_wp2
  gi_loopw [9] (fun i wr => i = .int .i64 0 ∧ J [] wr) (fun _ _ => 0)
  case atStart => exact ⟨rfl, h0⟩
  case round =>
    obtain ⟨rfl, hJs⟩ := hrel
    gi_wp2
    go_end0
    exact ⟨⟨_, rfl⟩, hJs⟩
/-- The encoding of a round's two variables. -/
def encQ (x : Nat × Blk) : Array Value := #[.int .i64 (x.1 : Int), bv x.2]
theorem with_stops (n : Nat) (hn : 1 ≤ n) (Bx Bp : Nat) (p : Int) (s : Value) (bs : List Blk) (w0 w : World) (hS : SB w0 s bs) (hb0 : Below w0.heap.size w0 w) (hx : w.cell? ⟨Bx, 1, none⟩ = some s) (hBx : Bx < w.heap.size)
    (hp : w.cell? ⟨Bp, 0, none⟩ = some (.int .i64 p)) (hBp : Bp < w.heap.size) :
    SeqStopsK Fence.wide n Try.prog 176 #[.pointer (some ⟨Bx, 0, none⟩), .pointer (some ⟨Bp, 0, none⟩)] encQ (KpB w0.heap.size Bp) (fun ys => ys = upTo p bs bs.length)
      (fun pre => ∃ k, k ≤ bs.length ∧ pre = upTo p bs k) bs.length w := fun l J Jx W hW hJ _ hY h0 => by
  have hx' := (hW.cell (p := ⟨Bx, 1, none⟩) hBx).trans hx
  have hp' := (hW.cell (p := ⟨Bp, 0, none⟩) hBp).trans hp
  have hsz := hW.size
  have hsz0 := hb0.size
  obtain ⟨_, hlen, hr⟩ := hS
  rcases hr with ⟨a0, c0, rfl, rfl⟩ | ⟨b, off, cap, rfl, hb, hbl⟩
  · exact (with1_nil_in n l Bx Bp a0 c0 p J W hx' hp' h0).mono fun e W' ⟨he, hj⟩ => ⟨he, .inl ⟨_, rfl, hj⟩⟩
  · refine with1_in n hn l Bx Bp w0.heap.size b off cap p bs hlen hb J Jx W hJ hY hx' hp' (hbl.below (hb0.trans (hW.mono hsz0)) hb) (by omega) (by omega) h0
end Go.Proofs.Ytlchcnngikgjjaa

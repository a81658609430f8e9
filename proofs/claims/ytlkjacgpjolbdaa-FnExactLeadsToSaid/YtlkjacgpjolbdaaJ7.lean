
/- Rows of rows of integers that a call makes by append; the squares of few points. impl.RenumberSystem answers as the plain function renF. impl.SquareOf makes the square of its number. The model's l01Order. The model's RenumberSystem. The pairs of a list of blocks, as a map. -/
import Derived.Test.YtlkjacgpjolbdaaJ6
import Derived.Deep.RegionHeld3
namespace Go.Proofs.Ytlkjacgpjolbdaa
open Go.RowKit Go.Maps
theorem infoRow : (Try.prog.info? 35).map (fun i => (i.zero, i.size, i.bytes)) = some (some (.slice none 0 0), 1, 24) := by kernel_rfl
def rowV (gs caps : Nat → Nat) (F : Nat → List Int) (k : Nat) : Value := .slice (some ⟨gs k, 0, none⟩) (F k).length (caps k)
/-- The value owns a slice of n rows, each in a block of its own. -/
structure AccS (w : World) (base : Nat) (u : Value) (n : Nat) (gs caps : Nat → Nat) (F : Nat → List Int) : Prop where
  own : w.ownsRow base 35 1 u n ((List.range n).map (rowV gs caps F))
  row : ∀ k, k < n → OwnAtI w (gs k) (F k)
  ne : ∀ k, k < n → u.ownBlock ≠ some (gs k)
  inc : ∀ j k, j < k → k < n → gs j ≠ gs k
  low : ∀ k, k < n → base ≤ gs k
theorem ownsRow_lt {w : World} {base : Nat} {e : TypeId} {size n : Nat} {u : Value} {xs : List Value} (h : w.ownsRow base e size u n xs) : ∀ r, u.ownBlock = some r → base ≤ r ∧ r < w.heap.size := fun r hr => by
  rcases h.2 with ⟨rfl, _⟩ | ⟨g, cap, cur, rfl, hb, hcur, _⟩
  · simp [Value.ownBlock] at hr
  · obtain rfl : g = r := by simpa [Value.ownBlock] using hr
    exact ⟨hb, (Array.getElem?_eq_some_iff.1 hcur).1⟩
theorem ownsRow_kept {w w' : World} {base : Nat} {e : TypeId} {size n : Nat} {u : Value} {xs : List Value} {row : Option Nat} (h : w.ownsRow base e size u n xs) (hg : w.grownBy w' row) (hr : row = none ∨ u.ownBlock ≠ row) : w'.ownsRow base e size u n xs := by
  obtain ⟨hl, h | ⟨g, cap, cur, rfl, hb, hcur, hrest⟩⟩ := h
  · exact ⟨hl, .inl h⟩
  · exact ⟨hl, .inr ⟨g, cap, cur, rfl, hb, (hg.block g (Array.getElem?_eq_some_iff.1 hcur).1 (fun e => by
      rcases hr with rfl | hr
      · cases e
      · exact hr (by rw [← e]; rfl))).trans hcur, hrest⟩⟩
section
variable {w w' : World} {base : Nat} {u : Value} {n : Nat} {gs caps : Nat → Nat} {F : Nat → List Int}
theorem AccS.kept (h : AccS w base u n gs caps F) {row : Option Nat} (hg : w.grownBy w' row) (hu : row = none ∨ u.ownBlock ≠ row) (hr : ∀ k, k < n → some (gs k) ≠ row) : AccS w' base u n gs caps F :=
  ⟨ownsRow_kept h.own hg hu, fun k hk => (h.row k hk).kept hg (hr k hk), h.ne, h.inc, h.low⟩
theorem AccS.below (h : AccS w base u n gs caps F) {B : Nat} (hb : Below B w w') (hB : w.heap.size ≤ B) : AccS w' base u n gs caps F :=
  h.kept (only_of_below (hb.mono hB) none) (.inl rfl) (by simp)
theorem AccS.nil (w : World) (base : Nat) (gs caps : Nat → Nat) (F : Nat → List Int) : AccS w base (.slice none 0 0) 0 gs caps F :=
  ⟨⟨rfl, .inl ⟨rfl, rfl⟩⟩, fun k hk => by omega, fun k hk => by omega, fun j k _ hk => by omega, fun k hk => by omega⟩
theorem AccS.ssr (h : AccS w base u n gs caps F) (hn : 0 < n) : ∃ G cap, u = .slice (some ⟨G, 0, none⟩) n cap ∧ base ≤ G ∧ SSR w base G gs caps n F := by
  obtain ⟨⟨hl, h1⟩, h2, h3, h4, h5⟩ := h
  rcases h1 with ⟨_, h0⟩ | ⟨g, cap, cur, rfl, hb, hcur, hn', hc, hsz, hx⟩
  · omega
  · refine ⟨g, cap, rfl, hb, ⟨fun k hk => ?_, h2, fun k hk e => h3 k hk (by rw [e]; rfl), h4, h5, (Array.getElem?_eq_some_iff.1 hcur).1⟩⟩
    have e : ((List.range n).map (rowV gs caps F))[k]? = some (rowV gs caps F k) := by simp [hk]
    rw [← hx, List.getElem?_take_of_lt (by omega)] at e
    simp [World.cell?, hcur]
    simpa [rowV] using e
end
theorem map_congr' {α β : Type} {f g : α → β} {l : List α} (h : ∀ x ∈ l, f x = g x) : l.map f = l.map g := List.map_congr_left h
theorem wpList_append_row {w : World} {ops : Array Oper} {rest : List Oper} {o : Oper} {a : Act} {Q : Exit → Act → World → Prop} (hgd : o.guard = none) (s x : Operand)
    (ho : o.op = .call { callee := .builtin .append, args := #[s, x], argTypes := #[45, 45] })
    (base : Nat) (v : Value) (n : Nat) (gs caps : Nat → Nat) (F : Nat → List Int) (hs : a.eval s = v) (hown : AccS w base v n gs caps F) (b0 c : Nat) (hx : a.eval x = .slice (some ⟨b0, 0, none⟩) 1 c) (g cg : Nat)
    (c1 : w.cell? ⟨b0, 0, none⟩ = some (.slice (some ⟨g, 0, none⟩) (F n).length cg)) (hrow : OwnAtI w g (F n)) (hgt : ∀ k, k < n → gs k < g) (hng : v.ownBlock ≠ some g) (hbg : base ≤ g) (hl : n ≤ 1100000) (hbase : base ≤ w.heap.size)
    (h : ∀ (G cap : Nat) (w' : World) (gs' caps' : Nat → Nat), AccS w' base (.slice (some ⟨G, 0, none⟩) (n + 1) cap) (n + 1) gs' caps' F → w.grownBy w' v.ownBlock → wpList Try.prog ops Q rest (a.put o.dst (.slice (some ⟨G, 0, none⟩) (n + 1) cap)) w') : wpList Try.prog ops Q (o :: rest) a w := by
  obtain ⟨i0, hi, hz0, hz1, hz2⟩ := info_parts infoRow
  refine wpList_append_own_at w hgd s x 45 ho base 35 i0 _ 1 24 Try.underlying45 hi hz0 hz1 hz2 rfl (by decide) v n _ hs hown.own ⟨b0, 0, none⟩ 1 c [.slice (some ⟨g, 0, none⟩) (F n).length cg] hx rfl ?_ ?_ (by unfold maxLen; omega) (by omega) hbase ?_
  · intro j u hj
    rw [addr_at, Nat.zero_add]
    match j, hj with
    | 0, hj => simp at hj; rw [← hj]; exact c1
    | j + 1, hj => simp at hj
  · intro u hu
    simp at hu
    rw [hu]
    rfl
  · intro v' w' hown' hg _ hob
    obtain ⟨G, cap, rfl⟩ := row_some hown'
    have hGg : G ≠ g := by
      rintro rfl
      rcases hob with e | e
      · exact hng (by rw [← e]; rfl)
      · simp [Value.ownBlock] at e
        have := hrow.lt
        omega
    refine h G cap w' (fun k => if k = n then g else gs k) (fun k => if k = n then cg else caps k) ⟨?_, fun k hk => ?_, fun k hk => ?_, fun j k hjk hk => ?_, fun k hk => ?_⟩ hg
    · rw [List.range_succ, List.map_append, List.map_singleton]
      have e1 : (List.range n).map (rowV (fun k => if k = n then g else gs k) (fun k => if k = n then cg else caps k) F) = (List.range n).map (rowV gs caps F) := map_congr' fun k hk => by
        have : k ≠ n := by have := List.mem_range.1 hk; omega
        simp [rowV, this]
      rw [e1]
      simpa [rowV] using hown'
    · split
      · subst k; exact hrow.kept hg (fun e => hng e.symm)
      · exact (hown.row k (by omega)).kept hg (fun e => hown.ne k (by omega) e.symm)
    · split
      · simpa [Value.ownBlock] using hGg
      · intro e
        have e' : G = gs k := by simpa [Value.ownBlock] using e
        rcases hob with e2 | e2
        · exact hown.ne k (by omega) (by rw [← e2, e])
        · simp [Value.ownBlock] at e2
          have := (hown.row k (by omega)).lt
          omega
    · rw [if_neg (by omega)]
      split
      · exact Nat.ne_of_lt (hgt j (by omega))
      · exact hown.inc j k hjk (by omega)
    · split
      · exact hbg
      · exact hown.low k (by omega)
/-- A slice of rows and a code. -/
def RSS (n : Nat) (F : Nat → List Int) (κ : Int) (w : World) (e : Ending) (w' : World) : Prop :=
  ∃ u G cap gs caps, e = .returned (.tuple #[u, .int .i64 κ]) ∧ Below w.heap.size w w' ∧ u = .slice (some ⟨G, 0, none⟩) n cap ∧ w.heap.size ≤ G ∧ SSR w' w.heap.size G gs caps n F
def hf (n s : Int) : Int := if (s % n) % 2 = 0 then (s % n) / 2 else if n % 2 = 0 then (s % n + n - 1) / 2 else (s % n + n) / 2
def rowP (n k : Nat) (j : Nat) : List Int := (List.range j).map fun (y : Nat) => hf n ((k : Int) + (y : Int))
def rowF (n k : Nat) : List Int := rowP n k n
theorem rowP_len (n k j : Nat) : (rowP n k j).length = j := by simp [rowP]
theorem rowP_succ (n k j : Nat) : rowP n k (j + 1) = rowP n k j ++ [hf n ((k : Int) + (j : Int))] := by simp [rowP, List.range_succ]
theorem rowP_next (n k j : Nat) (h : j < n) : (rowP n k j ++ List.replicate (n - j) 0).set j (hf n ((k : Int) + (j : Int))) = rowP n k (j + 1) ++ List.replicate (n - (j + 1)) 0 := by
  rw [rowP_succ, show n - j = (n - (j + 1)) + 1 by omega, List.replicate_succ, List.set_append_right _ _ (by rw [rowP_len]; omega), rowP_len, Nat.sub_self, List.set_cons_zero, List.append_assoc]
  rfl
theorem made_ints (w : World) (n : Nat) (T : TypeId) : OwnAtI (w.alloc (.cells (madeCells #[.int .i64 0] n) T)) w.heap.size (List.replicate n 0) := by
  refine ⟨by simp, fun k hk => ?_, fun o => by simp⟩
  rw [List.length_replicate] at hk
  rw [World.cell?_alloc_at _ _ _ _ rfl]
  simp [madeCells, hk, Nat.mod_one]
end Go.Proofs.Ytlkjacgpjolbdaa

namespace Go.Proofs.Ytlkjacgpjolbdaa
open Go.RowKit Go.Maps
theorem sx_one (W : World) (x : Blk) (T : TypeId) : SX (W.alloc (.cells #[.int .i64 x.a, .int .i64 x.b, .int .i64 x.c] T)) (.slice (some ⟨W.heap.size, 0, none⟩) 1 1) [x] :=
  .inr ⟨W.heap.size, 0, 1, rfl, by simp, fun k hk => by
    have : k = 0 := by simp at hk; omega
    subst this
    simp⟩
set_option maxRecDepth 100000 in
set_option maxHeartbeats 1000000 in
theorem RenumberSystem_any (v : Int) (s : Value) (bs : List Blk) (t : Value) (p : List Int) (w : World) (h : SB w s bs) (ht : IB w t p) (hwf : ∀ z ∈ p, WF z) :
    Calls Try.prog 98 #[.agg #[.int .i64 v, s], t] w (RSys (renF v bs p) w) := by
  have hs := h.slice
  have HI := Lib.hid fun W (hb : Below w.heap.size w W) => IsSystem_any v s bs W (h.below hb (Nat.le_refl _))
  have HR := Lib.hid fun W (hb : Below w.heap.size w W) => isRenumbering_any v t p W (ht.below hb (Nat.le_refl _)) hwf
  have HSB := Lib.hid h
  have hlen := h.2.1
  have hts : ∃ a c, t = .slice a p.length c := by rcases ht.2 with ⟨a, c, rfl, rfl⟩ | ⟨b, off, cap, rfl, _⟩ <;> exact ⟨_, _, rfl⟩
  have HT := Lib.hid ht
  clear h ht hwf
  obtain ⟨a0, c0, rfl⟩ := hs
  obtain ⟨a1, c1, rfl⟩ := hts
  cases hi : isSysImpl v bs with
  | false =>
    have hval : renF v bs p = (0, [], 1) := by simp [renF, hi]
    rw [hval]
    rw [hi] at HI
    clear hval hi HSB HR HT
    go_enter Try.func98, Try.ntmps98
    go_wp2_with (go_at_call 70; refine (HI.out _ (below2 _ _ _ _)).mono ?_; rintro e w1 ⟨rfl, hb1⟩; obtain ⟨_, _, d0, d1, f0, f1, hbw, hlt⟩ := boxes2 hb1)
    exact bodyPost_ret (v := .tuple #[.agg #[.int .i64 0, .slice none 0 0], .int .i64 1]) (by simp [results, Try.results98, go_sem, *]) rfl ⟨_, rfl, .inl ⟨rfl, _, _, rfl⟩, below_set2 hbw (by omega) _ _⟩
  | true =>
    rw [hi] at HI
    obtain ⟨hv3, hv15, hb35⟩ := sys_size hi
    cases hr : isRen v p with
    | false =>
      have hval : renF v bs p = (0, [], 2) := by simp [renF, hi, hr]
      rw [hval]
      rw [hr] at HR
      clear hval hi hr HSB HT
      go_enter Try.func98, Try.ntmps98
      go_wp2_with fail
      refine (HI.out _ (below2 _ _ _ _)).mono ?_
      rintro e w1 ⟨rfl, hb1⟩
      obtain ⟨p0, p1, d0, d1, f0, f1, hbw, hlt⟩ := boxes2 hb1
      clear hb1
      go_wp2_with fail
      refine (HR.out _ hbw).mono ?_
      rintro e w2 ⟨rfl, hb2⟩
      obtain ⟨q0, q1, e0, e1, k0, k1⟩ : Six w2 w.heap.size v (.slice a0 bs.length c0) := keep6 (row := none) ⟨p0, p1, d0, d1, f0, f1⟩ (gb_below hb2) (by simp)
      have hz2 := hb2.size
      go_wp2
      exact bodyPost_ret (v := .tuple #[.agg #[.int .i64 0, .slice none 0 0], .int .i64 2]) (by simp [results, Try.results98, go_sem, *]) rfl ⟨_, rfl, .inl ⟨rfl, _, _, rfl⟩, below_set2 (hbw.trans (hb2.mono (by omega))) (by omega) _ _⟩
    | true =>
      have hval : renF v bs p = (v, sortB (bs.map (renB p)), 0) := by simp [renF, hi, hr]
      rw [hval]
      rw [hr] at HR
      have HG := Lib.hid (sys_good hi)
      have HREN := Lib.hid hr
      have hpl : (p.length : Int) = v := by unfold isRen at hr; simp only [Bool.and_eq_true, decide_eq_true_eq] at hr; exact hr.1
      clear hval hi hr
      go_enter Try.func98, Try.ntmps98
      go_wp2_with fail
      refine (HI.out _ (below2 _ _ _ _)).mono ?_
      rintro e w1 ⟨rfl, hb1⟩
      obtain ⟨p0, p1, d0, d1, f0, f1, hbw, hlt⟩ := boxes2 hb1
      clear hb1
      go_wp2_with fail
      refine (HR.out _ hbw).mono ?_
      rintro e w2 ⟨rfl, hb2⟩
      obtain ⟨q0, q1, e0, e1, k0, k1⟩ : Six w2 w.heap.size v (.slice a0 bs.length c0) := keep6 (row := none) ⟨p0, p1, d0, d1, f0, f1⟩ (gb_below hb2) (by simp)
      have hz2 := hb2.size
      have hbw2 := hbw.trans (hb2.mono (by omega))
      have hlt2 : w.heap.size + 1 < w2.heap.size := by omega
      have hlt3 : w.heap.size < w2.heap.size := by omega
      have HSX := Lib.hid (HSB.out.below hbw2 (Nat.le_refl _)).sx
      have HT2 := Lib.hid (HT.out.below hbw2 (Nat.le_refl _))
      have HSIX := Lib.hid (show Six w2 w.heap.size v (.slice a0 bs.length c0) from ⟨q0, q1, e0, e1, k0, k1⟩)
      have HPL := Lib.hid hpl
      clear p0 p1 d0 d1 f0 f1 hb2 e0 e1 k0 k1 hpl
      go_wp2_with fail
      go_loopw [6, 22] (fun o t wr => ∃ k : Nat, k ≤ bs.length ∧ t = .int .i64 k ∧ Below w2.heap.size w2 wr ∧ OwnR wr w2.heap.size o ((bs.take k).map (renB p)) ∧ ∃ a n c, o = .slice a n c) (fun _ t _ => bs.length - (intOf t).toNat)
      case atStart => exact ⟨0, Nat.zero_le _, rfl, Below.refl _ _, OwnR.nil _ _, _, _, _, rfl⟩
      case round =>
        obtain ⟨k, hk, rfl, hB, hO, a5, n5, c5, rfl⟩ := hrel
        have hz := hB.size
        have hz1 : w.heap.size < wr.heap.size := by omega
        have r0 := (hB.cell (p := ⟨w.heap.size, 0, none⟩) hlt3).trans q0
        have r1 := (hB.cell (p := ⟨w.heap.size, 1, none⟩) hlt3).trans q1
        have HO5 := Lib.hid hO
        clear hO
        by_cases hkl : k < bs.length
        · rcases HSX.out with ⟨_, _, _, hnil⟩ | ⟨b, off, cap, hv, hblt, hbl⟩
          · rw [hnil] at hkl; simp at hkl
          rcases HT2.out.2 with ⟨_, _, _, hnil⟩ | ⟨pb, po, pc, hv2, hplt, hpi⟩
          · exfalso; have := HPL.out; rw [hnil] at this; simp at this; omega
          simp at hv hv2
          obtain ⟨rfl, rfl⟩ := hv
          obtain ⟨rfl, rfl⟩ := hv2
          have hz4 : b < wr.heap.size := by omega
          have hz5 : pb < wr.heap.size := by omega
          obtain ⟨x, hx, ex, x1, x2, x3⟩ := blks_at (hbl.below hB hblt) hkl
          obtain ⟨g1, g2, g3, g4⟩ := goodB_iff.1 (HG.out x hx)
          obtain ⟨xa, xb, xc⟩ := x
          dsimp only at x1 x2 x3 g1 g2 g3 g4
          obtain ⟨na, rfl⟩ : ∃ n : Nat, xa = (n : Int) := ⟨xa.toNat, by omega⟩
          obtain ⟨nb, rfl⟩ : ∃ n : Nat, xb = (n : Int) := ⟨xb.toNat, by omega⟩
          obtain ⟨nc, rfl⟩ : ∃ n : Nat, xc = (n : Int) := ⟨xc.toNat, by omega⟩
          have hpl := HPL.out
          have t1 := (hB.cell (p := ⟨pb, po + na, none⟩) hplt).trans (hpi na (by omega))
          have t2 := (hB.cell (p := ⟨pb, po + nb, none⟩) hplt).trans (hpi nb (by omega))
          have t3 := (hB.cell (p := ⟨pb, po + nc, none⟩) hplt).trans (hpi nc (by omega))
          obtain ⟨ya, hya⟩ : ∃ y, y = p[na]?.getD 0 := ⟨_, rfl⟩
          obtain ⟨yb, hyb⟩ : ∃ y, y = p[nb]?.getD 0 := ⟨_, rfl⟩
          obtain ⟨yc, hyc⟩ : ∃ y, y = p[nc]?.getD 0 := ⟨_, rfl⟩
          rw [← hya] at t1
          rw [← hyb] at t2
          rw [← hyc] at t3
          obtain ⟨r, hr⟩ : ∃ r, r = blk3 ya yb yc := ⟨_, rfl⟩
          have hsucc : (bs.take (k + 1)).map (renB p) = (bs.take k).map (renB p) ++ [r] := by
            have e1 : bs[k] = ⟨(na : Int), (nb : Int), (nc : Int)⟩ := by rw [List.getElem?_eq_getElem hkl] at ex; simpa using ex
            rw [List.take_succ_eq_append_getElem hkl, List.map_append, e1, hr, hya, hyb, hyc]
            simp [renB, at0]
          have HSU := Lib.hid hsucc
          have HBF := Lib.hid fun (B : Nat) (C : Nat) (W : World) (j0 : W.cell? ⟨B, 0, none⟩ = some (.int .i64 ya)) (j1 : W.cell? ⟨B, 1, none⟩ = some (.int .i64 yb)) (j2 : W.cell? ⟨B, 2, none⟩ = some (.int .i64 yc)) => blockFrom_any B 0 C ya yb yc W j0 j1 j2
          rw [← hr] at HBF
          obtain ⟨ra, rb, rc⟩ := r
          unfold bv at HBF
          dsimp only at HBF
          have j1 : (na : Int) < (p.length : Int) := by omega
          have j2 : (nb : Int) < (p.length : Int) := by omega
          have j3 : (nc : Int) < (p.length : Int) := by omega
          have i0 : (0 : Int) ≤ (k : Int) := by omega
          have i1 : (k : Int) < (bs.length : Int) := by omega
          have hl3 : ((bs.take k).map (renB p)).length ≤ 1000 := by simp; omega
          obtain ⟨L, hL⟩ : ∃ L, L = (bs.take k).map (renB p) := ⟨_, rfl⟩
          rw [← hL] at HO5 HSU hl3
          have HLT := Lib.hid (show ∀ r, (Value.slice a5 n5 c5).ownBlock = some r → w2.heap.size ≤ r ∧ r < wr.heap.size from ownsRow_lt HO5.out)
          clear hx ex hbl hpi hsucc hya hyb hyc hr hL hpl
          have m0 : (wr.alloc (.cells #[.int .i64 (na : Int), .int .i64 (nb : Int), .int .i64 (nc : Int)] 70)).cell? ⟨pb, po + na, none⟩ = some (.int .i64 ya) := cell_past t1 hz5
          have m1 : (wr.alloc (.cells #[.int .i64 (na : Int), .int .i64 (nb : Int), .int .i64 (nc : Int)] 70)).cell? ⟨pb, po + nb, none⟩ = some (.int .i64 yb) := cell_past t2 hz5
          have m2 : (wr.alloc (.cells #[.int .i64 (na : Int), .int .i64 (nb : Int), .int .i64 (nc : Int)] 70)).cell? ⟨pb, po + nc, none⟩ = some (.int .i64 yc) := cell_past t3 hz5
          go_wp2
          have n0 : (wr.alloc (.cells #[.int .i64 (na : Int), .int .i64 (nb : Int), .int .i64 (nc : Int)] 70)).cell? ⟨wr.heap.size, 0, none⟩ = some (.int .i64 (na : Int)) := by simp [go_sem]
          have n1 : (wr.alloc (.cells #[.int .i64 (na : Int), .int .i64 (nb : Int), .int .i64 (nc : Int)] 70)).cell? ⟨wr.heap.size, 1, none⟩ = some (.int .i64 (nb : Int)) := by simp [go_sem]
          have n2 : (wr.alloc (.cells #[.int .i64 (na : Int), .int .i64 (nb : Int), .int .i64 (nc : Int)] 70)).cell? ⟨wr.heap.size, 2, none⟩ = some (.int .i64 (nc : Int)) := by simp [go_sem]
          have ho1 := HO5.out.below ((Below.refl _ _).alloc (Nat.le_refl _) (.cells #[.int .i64 (na : Int), .int .i64 (nb : Int), .int .i64 (nc : Int)] 70)) (Nat.le_refl _)
          have hB1 := hB.alloc hz (.cells #[.int .i64 (na : Int), .int .i64 (nb : Int), .int .i64 (nc : Int)] 70)
          have hz6 : (wr.alloc (.cells #[.int .i64 (na : Int), .int .i64 (nb : Int), .int .i64 (nc : Int)] 70)).heap.size = wr.heap.size + 1 := by simp
          obtain ⟨W1, hW1⟩ : ∃ W1, (wr.alloc (.cells #[.int .i64 (na : Int), .int .i64 (nb : Int), .int .i64 (nc : Int)] 70)) = W1 := ⟨_, rfl⟩
          rw [hW1] at m0 m1 m2 n0 n1 n2 ho1 hB1 hz6 ⊢
          have HO1 := Lib.hid ho1
          have HZ6 := Lib.hid hz6
          have hpz : pb < W1.heap.size := by omega
          have hwz : wr.heap.size < W1.heap.size := by omega
          clear hW1 t1 t2 t3 x1 x2 x3 ho1 hz6 r0 r1
          go_region_held3 (fun w' => w'.cell? ⟨pb, po + na, none⟩ = some (.int .i64 ya) ∧ w'.cell? ⟨pb, po + nb, none⟩ = some (.int .i64 yb) ∧ w'.cell? ⟨pb, po + nc, none⟩ = some (.int .i64 yc) ∧ w'.cell? ⟨wr.heap.size, 0, none⟩ = some (.int .i64 (na : Int)) ∧ w'.cell? ⟨wr.heap.size, 1, none⟩ = some (.int .i64 (nb : Int)) ∧ w'.cell? ⟨wr.heap.size, 2, none⟩ = some (.int .i64 (nc : Int)))
            (first | exact ⟨E0, E1, E2, E3, E4, E5⟩ | exact ⟨F0, F1, F2, F3, F4, F5⟩ | go_keep)
            (first
              | (go_at_call 138; refine (HBF.out W1.heap.size 3 _ (by simp [go_sem]) (by simp [go_sem]) (by simp [go_sem])).mono ?_; rintro e w5 ⟨rfl, hb5⟩; have hB5 : Below W1.heap.size W1 w5 := (((Below.refl _ _).alloc (Nat.le_refl _) _).drew).trans (hb5.mono (by simp)); have E0 := (hB5.cell (p := ⟨pb, po + na, none⟩) hpz).trans m0; have E1 := (hB5.cell (p := ⟨pb, po + nb, none⟩) hpz).trans m1; have E2 := (hB5.cell (p := ⟨pb, po + nc, none⟩) hpz).trans m2; have E3 := (hB5.cell (p := ⟨wr.heap.size, 0, none⟩) hwz).trans n0; have E4 := (hB5.cell (p := ⟨wr.heap.size, 1, none⟩) hwz).trans n1; have E5 := (hB5.cell (p := ⟨wr.heap.size, 2, none⟩) hwz).trans n2; have HO6 := Lib.hid (HO1.out.below hB5 (Nat.le_refl _)))
              | (refine step_append_many rfl (.tmp 26) (.tmp 44) rfl w2.heap.size (.slice a5 n5 c5) L (by simp [Act.eval]) (by first | exact HO6.out.below ((Below.refl _ _).alloc (Nat.le_refl _) _) (Nat.le_refl _) | exact HO6.out.below (((Below.refl _ _).alloc (Nat.le_refl _) _).drew) (Nat.le_refl _)) (.slice (some ⟨w5.heap.size, 0, none⟩) 1 1) [⟨ra, rb, rc⟩] (by simp [Act.eval]) (by first | exact sx_one _ ⟨ra, rb, rc⟩ _ | exact (sx_one _ ⟨ra, rb, rc⟩ _).below ((Below.refl _ _).drew) (Nat.le_refl _)) (by simp; omega) (by have := hB5.size; simp; omega) ?_; intro a3 c3 w3 ho3 hg3; have hgw : w5.grownBy w3 (Value.slice a5 n5 c5).ownBlock := gb_trans (World.grownBy_alloc _ _ none) (by first | exact hg3 | exact gb_drewL hg3); have F0 := hgw.cell E0 (fun e => by have := (HLT.out _ e.symm).1; simp at this; omega); have F1 := hgw.cell E1 (fun e => by have := (HLT.out _ e.symm).1; simp at this; omega); have F2 := hgw.cell E2 (fun e => by have := (HLT.out _ e.symm).1; simp at this; omega); have F3 := hgw.cell E3 (fun e => by have := (HLT.out _ e.symm).2; simp at this); have F4 := hgw.cell E4 (fun e => by have := (HLT.out _ e.symm).2; simp at this); have F5 := hgw.cell E5 (fun e => by have := (HLT.out _ e.symm).2; simp at this)))
          have hrow := HO6.out.row
          have hB6 := hB1.trans (hB5.mono (by omega))
          have hz7 := hB5.size
          have hB7 := hB6.grown hgw (by omega) (fun j e => hrow j e)
          go_wp2
          go_roundw
          case rel => exact ⟨k + 1, by omega, by go_num, hB7, by rw [HSU.out]; exact ho3, _, _, _, rfl⟩
          case measure => simp [intOf]; omega
        · have e : k = bs.length := by omega
          subst e
          rw [List.take_length] at HO5
          obtain ⟨L, hL⟩ : ∃ L, L = bs.map (renB p) := ⟨_, rfl⟩
          have hLl : L.length ≤ 1100000 := by rw [hL, List.length_map]; omega
          have HLL := Lib.hid hL
          rw [← hL] at HO5
          have HSF := Lib.hid (systemFrom_any v w2.heap.size (.slice a5 n5 c5) L wr HO5.out hLl hz)
          obtain ⟨e0, e1, k0, k1⟩ := HSIX.out.2.2
          have f0 := (hB.cell (p := ⟨w.heap.size + 1, 0, none⟩) hlt2).trans e0
          have f1 := (hB.cell (p := ⟨w.heap.size + 1, 1, none⟩) hlt2).trans e1
          have f2 := (hB.frozen (p := ⟨w.heap.size + 1, 0, none⟩) hlt2).trans k0
          have f3 := (hB.frozen (p := ⟨w.heap.size + 1, 1, none⟩) hlt2).trans k1
          have hrow := HO5.out.row
          clear e0 e1 k0 k1 hL
          go_wp2_with fail
          refine HSF.out.mono ?_
          rintro e w3 ⟨rfl, ho3, hg3⟩
          have hne : ∀ q, q < w2.heap.size → some q ≠ (Value.slice a5 n5 c5).ownBlock := fun q hq e => by have := hrow q e.symm; omega
          have g0 := hg3.cell f0 (by simpa using hne _ hlt2)
          have g1 := hg3.cell f1 (by simpa using hne _ hlt2)
          have hblk := hg3.block (w.heap.size + 1) (by omega) (hne _ hlt2)
          have g2 : w3.frozen? ⟨w.heap.size + 1, 0, none⟩ = false := (World.frozen?_of_block (a := ⟨w.heap.size + 1, 0, none⟩) hblk).trans f2
          have g3 : w3.frozen? ⟨w.heap.size + 1, 1, none⟩ = false := (World.frozen?_of_block (a := ⟨w.heap.size + 1, 1, none⟩) hblk).trans f3
          have hz9 := hg3.size
          have hB9 : Below w.heap.size w w3 := (hbw2.trans (hB.mono (by omega))).grown hg3 (by omega) (fun j e => by have := hrow j e; omega)
          have hres := ho3.res
          clear f0 f1 f2 f3 hblk ho3 hg3
          go_wp2
          have hfin := (hres.kept (gb_set2 w3 (w.heap.size + 1) (.int .i64 v) (.slice a5 n5 c5)) (fun r e => by cases e; exact .inl (by omega))).wide (lo' := w.heap.size) (by omega) (gb_set2 w3 (w.heap.size + 1) (.int .i64 v) (.slice a5 n5 c5)).size
          rw [HLL.out] at hfin
          exact bodyPost_ret (v := .tuple #[.agg #[.int .i64 v, .slice a5 n5 c5], .int .i64 0]) (by simp [results, Try.results98, go_sem, *]) rfl ⟨_, rfl, hfin, below_set2 hB9 (by omega) _ _⟩
end Go.Proofs.Ytlkjacgpjolbdaa

namespace Go.Proofs.Ytlkjacgpjolbdaa
open Go.RowKit Go.Maps
theorem mkRow (n : Nat) (hn : n ≤ 1100000) (W : World) : (Instr.makeSlice 35 (.int .i64 (n : Int)) (.int .i64 (n : Int))).run Try.prog W = .ok (.slice (some ⟨W.heap.size, 0, none⟩) n n) (W.alloc (.cells (madeCells #[.int .i64 0] n) 2)) := by
  obtain ⟨i0, hi, hz0, hz1, hz2⟩ := info_parts infoInt64
  have hr := run_make (P := Try.prog) W 35 2 i0 (.int .i64 0) Try.underlying35 hi hz0 .i64 .i64 n n (by omega) (by omega) (by rw [hz2]; omega) (by omega)
  simp only [Int.toNat_natCast, hz1, Nat.mul_one] at hr
  exact hr
end Go.Proofs.Ytlkjacgpjolbdaa

namespace Go.Proofs.Ytlkjacgpjolbdaa
open Go.RowKit Go.Maps
theorem infoBoolT : (Try.prog.info? 4).map (fun i => (i.zero, i.size, i.bytes)) = some (some (.bool false), 1, 1) := by kernel_rfl
theorem mkBools (n : Nat) (hn : n ≤ 1100000) (W : World) : (Instr.makeSlice 86 (.int .i64 (n : Int)) (.int .i64 (n : Int))).run Try.prog W = .ok (.slice (some ⟨W.heap.size, 0, none⟩) n n) (W.alloc (.cells (madeCells #[.bool false] n) 4)) := by
  obtain ⟨i0, hi, hz0, hz1, hz2⟩ := info_parts infoBoolT
  have hr := run_make (P := Try.prog) W 86 4 i0 (.bool false) Try.underlying86 hi hz0 .i64 .i64 n n (by omega) (by omega) (by rw [hz2]; omega) (by omega)
  simp only [Int.toNat_natCast, hz1, Nat.mul_one] at hr
  exact hr
/-- A row of bools. -/
structure BoolsAt (w : World) (g n : Nat) (f : Nat → Bool) : Prop where
  lt : g < w.heap.size
  cell : ∀ q, q < n → w.cell? ⟨g, q, none⟩ = some (.bool (f q))
  free : ∀ o, w.frozen? ⟨g, o, none⟩ = false
theorem BoolsAt.made (w : World) (n : Nat) (T : TypeId) : BoolsAt (w.alloc (.cells (madeCells #[.bool false] n) T)) w.heap.size n (fun _ => false) := by
  refine ⟨by simp, fun k hk => ?_, fun o => by simp⟩
  rw [World.cell?_alloc_at _ _ _ _ rfl]
  simp [madeCells, hk, Nat.mod_one]
theorem BoolsAt.set {w : World} {g n : Nat} {f : Nat → Bool} (h : BoolsAt w g n f) {i : Nat} (hi : i < n) : BoolsAt (w.setCell ⟨g, i, none⟩ (.bool true)) g n (fun q => if q = i then true else f q) := by
  refine ⟨by simpa [World.setCell] using h.lt, fun q hq => ?_, fun o => by rw [World.frozen?_setCell]; exact h.free o⟩
  by_cases e : q = i
  · subst e
    rw [World.cell?_setCell_same' _ _ _ (by rw [h.cell q hq]; rfl)]
    simp
  · rw [World.cell?_setCell_other _ _ _ _ (by simp <;> omega), h.cell q hq, if_neg e]
theorem BoolsAt.congr {w : World} {g n : Nat} {f f' : Nat → Bool} (h : BoolsAt w g n f) (e : ∀ q, q < n → f q = f' q) : BoolsAt w g n f' := ⟨h.lt, fun q hq => by rw [← e q hq]; exact h.cell q hq, h.free⟩
theorem BoolsAt.kept {w w' : World} {g n : Nat} {f : Nat → Bool} {row : Option Nat} (h : BoolsAt w g n f) (hg : w.grownBy w' row) (hne : some g ≠ row) : BoolsAt w' g n f :=
  ⟨Nat.lt_of_lt_of_le h.lt hg.size, fun q hq => (World.cell?_of_block (w := w) (a := ⟨g, _, none⟩) (hg.block g h.lt hne)).trans (h.cell q hq), fun o => (World.frozen?_of_block (w := w) (a := ⟨g, o, none⟩) (hg.block g h.lt hne)).trans (h.free o)⟩
theorem take_snoc2 {l : List Int} {k : Nat} (h : k < l.length) : l.take (k + 1) = l.take k ++ [l[k]?.getD 0] := by
  rw [List.take_succ_eq_append_getElem h]; simp [h]
set_option maxRecDepth 100000 in
theorem l01Order_any (n : Nat) (hn0 : 1 ≤ n) (hn : n ≤ 1000) (s : Value) (p : List Int) (w : World) (h : IB w s p) :
    Calls Try.prog 96 #[s, .int .i64 (n : Int)] w (RV (.bool (rnGo (n : Int) [] p && decide ((p.length : Int) = (n : Int)))) w) := by
  obtain ⟨hlen, h3⟩ := h
  have hm := mkBools n (by omega)
  have HIN := Lib.hid fun a W => l01In_any a 0 ((n : Int) - 1) W
  rcases h3 with ⟨a, c, rfl, rfl⟩ | ⟨b, off, cap, rfl, hlt, hI⟩
  · have hval : (rnGo (n : Int) [] ([] : List Int) && decide ((([] : List Int).length : Int) = (n : Int))) = false := by
      have : ¬ ((0 : Nat) : Int) = (n : Int) := by omega
      simp only [rnGo, List.length_nil, Bool.true_and, decide_eq_false_iff_not]
      exact this
    rw [hval]
    clear hval
    go_enter Try.func96, Try.ntmps96
    go_wp2
    refine wp_loop_rounds 1 ?_
    rw [rounds_succ]
    go_wp2
    go_ret
    exact RV_of (bool_eq (by first | rfl | (simp; omega))) ((Below.refl _ _).alloc (Nat.le_refl _) _)
  · have HI := Lib.hid hI
    clear hI
    go_enter Try.func96, Try.ntmps96
    go_wp2
    go_loopw [6] (fun i wr => ∃ k : Nat, k ≤ p.length ∧ i = .int .i64 k ∧ BoolsAt wr w.heap.size n (fun q => decide ((q : Int) ∈ p.take k)) ∧ Below w.heap.size w wr ∧ Hid (rnGo (n : Int) [] p = rnGo (n : Int) (p.take k) (p.drop k))) (fun i _ => p.length - (intOf i).toNat)
    case atStart => exact ⟨0, Nat.zero_le _, rfl, (BoolsAt.made w n _).congr (fun q _ => by simp), (Below.refl _ _).alloc (Nat.le_refl _) _, Lib.hid (by simp)⟩
    case round =>
      obtain ⟨k, hk, rfl, hS, hB, HE⟩ := hrel
      have hsz := hB.size
      have hltB := hS.lt
      by_cases hkl : k < p.length
      · have c0 := (hB.cell (p := ⟨b, off + k, none⟩) hlt).trans (HI.out k hkl)
        have hts := take_snoc2 hkl
        have hdr : p.drop k = (p[k]?.getD 0) :: p.drop (k + 1) := by rw [List.drop_eq_getElem_cons hkl]; simp [hkl]
        obtain ⟨z, hz⟩ : ∃ z, z = p[k]?.getD 0 := ⟨_, rfl⟩
        rw [← hz] at c0 hts hdr
        rw [hdr] at HE
        have TS := Lib.hid hts
        have g0 : (0 : Int) ≤ (k : Int) := by omega
        have g1 : (k : Int) < (p.length : Int) := by omega
        clear hz hts hdr
        cases hin : inP (n : Int) z with
        | false =>
          have HIN2 := Lib.hid hin
          have hpt := HIN.out z
          have hb0 : (decide (0 ≤ z) && decide (z ≤ (n : Int) - 1)) = false := by
            unfold inP at hin
            simp only [Bool.and_eq_false_iff, decide_eq_false_iff_not] at hin ⊢
            omega
          rw [hb0] at hpt
          have HP1 := Lib.hid hpt
          clear hin hpt hb0
          go_wp2_with (go_at_call 67; refine (HP1.out _).mono ?_; rintro e w' ⟨rfl, rfl⟩)
          go_ret
          exact RV_of (bool_eq (by rw [HE.out, rnGo_bad HIN2.out]; rfl)) hB
        | true =>
          have HIN2 := Lib.hid hin
          have hpt := HIN.out z
          have hb0 : (decide (0 ≤ z) && decide (z ≤ (n : Int) - 1)) = true := by
            unfold inP at hin
            simp only [Bool.and_eq_true, decide_eq_true_eq] at hin ⊢
            omega
          rw [hb0] at hpt
          have HP1 := Lib.hid hpt
          obtain ⟨j, rfl⟩ : ∃ j : Nat, z = (j : Int) := by
            simp only [Bool.and_eq_true, decide_eq_true_eq] at hb0
            exact ⟨z.toNat, by omega⟩
          have hj : j < n := by simp only [Bool.and_eq_true, decide_eq_true_eq] at hb0; omega
          clear hin hpt hb0
          have cj := hS.cell j hj
          have fj := hS.free j
          have j0 : (0 : Int) ≤ (j : Int) := by omega
          have j1 : (j : Int) < (n : Int) := by omega
          by_cases hsn : (j : Int) ∈ p.take k
          · have HSN := Lib.hid hsn
            have hd : decide ((j : Int) ∈ p.take k) = true := by simpa using hsn
            rw [hd] at cj
            clear hsn hd
            go_wp2_with (go_at_call 67; refine (HP1.out _).mono ?_; rintro e w' ⟨rfl, rfl⟩)
            go_ret
            exact RV_of (bool_eq (by rw [HE.out, rnGo_dup HSN.out]; rfl)) hB
          · have HSN := Lib.hid hsn
            have hd : decide ((j : Int) ∈ p.take k) = false := by simpa using hsn
            rw [hd] at cj
            have hset := (hS.set hj).congr (f' := fun q => decide ((q : Int) ∈ p.take (k + 1))) (fun q _ => by
              rw [TS.out]
              by_cases e : q = j
              · simp [e]
              · have : ¬ (q : Int) = (j : Int) := by omega
                simp [e, this])
            have HSET := Lib.hid hset
            clear hsn hd hset
            go_wp2_with (go_at_call 67; refine (HP1.out _).mono ?_; rintro e w' ⟨rfl, rfl⟩)
            go_roundw
            case rel => exact ⟨k + 1, by omega, by go_num, HSET.out, hB.setCell (p := ⟨w.heap.size, j, none⟩) (Nat.le_refl _) _, Lib.hid (by rw [HE.out, rnGo_next HIN2.out HSN.out, TS.out])⟩
            case measure => simp [intOf]; omega
      · go_wp2
        go_ret
        exact RV_of (bool_eq (by rw [HE.out, List.drop_eq_nil_of_le (by omega), rnGo, Bool.true_and]; rw [Bool.eq_iff_iff]; simp)) hB
end Go.Proofs.Ytlkjacgpjolbdaa

namespace Go.Proofs.Ytlkjacgpjolbdaa
open Go.RowKit Go.Maps
set_option maxRecDepth 100000 in
set_option maxHeartbeats 1000000 in
theorem l01Renamed_any (v : Int) (s : Value) (bs : List Blk) (t : Value) (p : List Int) (w : World) (h : SB w s bs) (ht : IB w t p) (hg : ∀ x ∈ bs, goodB v x = true) (hv3 : 3 ≤ v) (hv15 : v ≤ 15) (hb35 : bs.length ≤ 35) (hren : isRen v p = true) :
    Calls Try.prog 97 #[.agg #[.int .i64 v, s], t] w fun e w' => ∃ u, e = .returned (.agg #[.int .i64 v, u]) ∧ ResR w' w.heap.size w'.heap.size u (sortB (bs.map (renB p))) ∧ Below w.heap.size w w' := by
  have hs := h.slice
  have HSX := Lib.hid h.sx
  have HT := Lib.hid ht
  have HG := Lib.hid hg
  have hts : ∃ a c, t = .slice a p.length c := by rcases ht.2 with ⟨a, c, rfl, rfl⟩ | ⟨b, off, cap, rfl, _⟩ <;> exact ⟨_, _, rfl⟩
  have HREN := Lib.hid hren
  have hpl : (p.length : Int) = v := by unfold isRen at hren; simp only [Bool.and_eq_true, decide_eq_true_eq] at hren; exact hren.1
  have HPL := Lib.hid hpl
  clear h ht hg hren hpl
  obtain ⟨a0, c0, rfl⟩ := hs
  obtain ⟨a1, c1, rfl⟩ := hts
  go_enter Try.func97, Try.ntmps97
  go_wp2_with fail
  obtain ⟨w2, hw2⟩ : ∃ w2, ((w.alloc (.cells #[.int .i64 v, .slice a0 bs.length c0] 28)).alloc (.cells #[.int .i64 0, .slice none 0 0] 28)) = w2 := ⟨_, rfl⟩
  have six : Six w2 w.heap.size v (.slice a0 bs.length c0) := by rw [← hw2]; exact ⟨by simp [go_sem], by simp [go_sem], by simp [go_sem], by simp [go_sem], by simp [go_sem], by simp [go_sem]⟩
  have hz2 : w2.heap.size = w.heap.size + 1 + 1 := by rw [← hw2]; simp
  have hbw2 : Below w.heap.size w w2 := by rw [← hw2]; exact below2 _ _ _ _
  rw [hw2]
  clear hw2
  have HO := lit_own w2
  have HB3 : Below w2.heap.size w2 (w2.alloc (.cells #[] 70)) := (Below.refl _ _).alloc (Nat.le_refl _) _
  rw [hz2] at HO HB3
  obtain ⟨q0, q1, _⟩ := id six
  have HSIX := Lib.hid six
  have HSX2 := Lib.hid (HSX.out.below hbw2 (Nat.le_refl _))
  have HT2 := Lib.hid (HT.out.below hbw2 (Nat.le_refl _))
  have HO0 := Lib.hid (And.intro HO HB3)
  have hlt2 : w.heap.size + 1 < w2.heap.size := by omega
  have hlt3 : w.heap.size < w2.heap.size := by omega
  have HZ2 := Lib.hid hz2
  clear six HO HB3 HSX HT hz2
  go_loopw [5, 6] (fun o t wr => ∃ k : Nat, k ≤ bs.length ∧ t = .int .i64 k ∧ Below w2.heap.size w2 wr ∧ OwnR wr w2.heap.size o ((bs.take k).map (renB p)) ∧ ∃ a n c, o = .slice a n c) (fun _ t _ => bs.length - (intOf t).toNat)
  case atStart =>
    have := HO0.out
    rw [← HZ2.out] at this
    exact ⟨0, Nat.zero_le _, rfl, this.2, by rw [← HZ2.out]; exact this.1, _, _, _, rfl⟩
  case round =>
    obtain ⟨k, hk, rfl, hB, hO, a5, n5, c5, rfl⟩ := hrel
    have hz := hB.size
    have hz1 : w.heap.size < wr.heap.size := by omega
    have r0 := (hB.cell (p := ⟨w.heap.size, 0, none⟩) hlt3).trans q0
    have r1 := (hB.cell (p := ⟨w.heap.size, 1, none⟩) hlt3).trans q1
    have HO5 := Lib.hid hO
    clear hO
    by_cases hkl : k < bs.length
    · rcases HSX2.out with ⟨_, _, _, hnil⟩ | ⟨b, off, cap, hv, hblt, hbl⟩
      · rw [hnil] at hkl; simp at hkl
      rcases HT2.out.2 with ⟨_, _, _, hnil⟩ | ⟨pb, po, pc, hv2, hplt, hpi⟩
      · exfalso; have := HPL.out; rw [hnil] at this; simp at this; omega
      simp at hv hv2
      obtain ⟨rfl, rfl⟩ := hv
      obtain ⟨rfl, rfl⟩ := hv2
      have hz4 : b < wr.heap.size := by omega
      have hz5 : pb < wr.heap.size := by omega
      obtain ⟨x, hx, ex, x1, x2, x3⟩ := blks_at (hbl.below hB hblt) hkl
      obtain ⟨g1, g2, g3, g4⟩ := goodB_iff.1 (HG.out x hx)
      obtain ⟨xa, xb, xc⟩ := x
      dsimp only at x1 x2 x3 g1 g2 g3 g4
      obtain ⟨na, rfl⟩ : ∃ n : Nat, xa = (n : Int) := ⟨xa.toNat, by omega⟩
      obtain ⟨nb, rfl⟩ : ∃ n : Nat, xb = (n : Int) := ⟨xb.toNat, by omega⟩
      obtain ⟨nc, rfl⟩ : ∃ n : Nat, xc = (n : Int) := ⟨xc.toNat, by omega⟩
      have hpl := HPL.out
      have t1 := (hB.cell (p := ⟨pb, po + na, none⟩) hplt).trans (hpi na (by omega))
      have t2 := (hB.cell (p := ⟨pb, po + nb, none⟩) hplt).trans (hpi nb (by omega))
      have t3 := (hB.cell (p := ⟨pb, po + nc, none⟩) hplt).trans (hpi nc (by omega))
      obtain ⟨ya, hya⟩ : ∃ y, y = p[na]?.getD 0 := ⟨_, rfl⟩
      obtain ⟨yb, hyb⟩ : ∃ y, y = p[nb]?.getD 0 := ⟨_, rfl⟩
      obtain ⟨yc, hyc⟩ : ∃ y, y = p[nc]?.getD 0 := ⟨_, rfl⟩
      rw [← hya] at t1
      rw [← hyb] at t2
      rw [← hyc] at t3
      obtain ⟨r, hr⟩ : ∃ r, r = blk3 ya yb yc := ⟨_, rfl⟩
      have hsucc : (bs.take (k + 1)).map (renB p) = (bs.take k).map (renB p) ++ [r] := by
        have e1 : bs[k] = ⟨(na : Int), (nb : Int), (nc : Int)⟩ := by rw [List.getElem?_eq_getElem hkl] at ex; simpa using ex
        rw [List.take_succ_eq_append_getElem hkl, List.map_append, e1, hr, hya, hyb, hyc]
        simp [renB, at0]
      have HSU := Lib.hid hsucc
      have hya1 : 0 ≤ ya ∧ ya < v := by rw [hya]; exact at0_in (a := (na : Int)) HREN.out g1 (by omega)
      have hyb1 : 0 ≤ yb ∧ yb < v := by rw [hyb]; exact at0_in (a := (nb : Int)) HREN.out (by omega) (by omega)
      have hyc1 : 0 ≤ yc ∧ yc < v := by rw [hyc]; exact at0_in (a := (nc : Int)) HREN.out (by omega) g4
      have HBF := Lib.hid fun (W : World) => l01Block_any ya yb yc W (by omega) (by omega) (by omega) (by omega) (by omega) (by omega)
      rw [← hr] at HBF
      obtain ⟨ra, rb, rc⟩ := r
      unfold bv at HBF
      dsimp only at HBF
      have j1 : (na : Int) < (p.length : Int) := by omega
      have j2 : (nb : Int) < (p.length : Int) := by omega
      have j3 : (nc : Int) < (p.length : Int) := by omega
      have i0 : (0 : Int) ≤ (k : Int) := by omega
      have i1 : (k : Int) < (bs.length : Int) := by omega
      have hl3 : ((bs.take k).map (renB p)).length ≤ 1000 := by simp; omega
      obtain ⟨L, hL⟩ : ∃ L, L = (bs.take k).map (renB p) := ⟨_, rfl⟩
      rw [← hL] at HO5 HSU hl3
      have HLT := Lib.hid (show ∀ r, (Value.slice a5 n5 c5).ownBlock = some r → w2.heap.size ≤ r ∧ r < wr.heap.size from ownsRow_lt HO5.out)
      clear hx ex hbl hpi hsucc hya hyb hyc hya1 hyb1 hyc1 hr hL hpl
      have m0 : (wr.alloc (.cells #[.int .i64 (na : Int), .int .i64 (nb : Int), .int .i64 (nc : Int)] 70)).cell? ⟨pb, po + na, none⟩ = some (.int .i64 ya) := cell_past t1 hz5
      have m1 : (wr.alloc (.cells #[.int .i64 (na : Int), .int .i64 (nb : Int), .int .i64 (nc : Int)] 70)).cell? ⟨pb, po + nb, none⟩ = some (.int .i64 yb) := cell_past t2 hz5
      have m2 : (wr.alloc (.cells #[.int .i64 (na : Int), .int .i64 (nb : Int), .int .i64 (nc : Int)] 70)).cell? ⟨pb, po + nc, none⟩ = some (.int .i64 yc) := cell_past t3 hz5
      go_wp2
      have n0 : (wr.alloc (.cells #[.int .i64 (na : Int), .int .i64 (nb : Int), .int .i64 (nc : Int)] 70)).cell? ⟨wr.heap.size, 0, none⟩ = some (.int .i64 (na : Int)) := by simp [go_sem]
      have n1 : (wr.alloc (.cells #[.int .i64 (na : Int), .int .i64 (nb : Int), .int .i64 (nc : Int)] 70)).cell? ⟨wr.heap.size, 1, none⟩ = some (.int .i64 (nb : Int)) := by simp [go_sem]
      have n2 : (wr.alloc (.cells #[.int .i64 (na : Int), .int .i64 (nb : Int), .int .i64 (nc : Int)] 70)).cell? ⟨wr.heap.size, 2, none⟩ = some (.int .i64 (nc : Int)) := by simp [go_sem]
      have ho1 := HO5.out.below ((Below.refl _ _).alloc (Nat.le_refl _) (.cells #[.int .i64 (na : Int), .int .i64 (nb : Int), .int .i64 (nc : Int)] 70)) (Nat.le_refl _)
      have hB1 := hB.alloc hz (.cells #[.int .i64 (na : Int), .int .i64 (nb : Int), .int .i64 (nc : Int)] 70)
      have hz6 : (wr.alloc (.cells #[.int .i64 (na : Int), .int .i64 (nb : Int), .int .i64 (nc : Int)] 70)).heap.size = wr.heap.size + 1 := by simp
      obtain ⟨W1, hW1⟩ : ∃ W1, (wr.alloc (.cells #[.int .i64 (na : Int), .int .i64 (nb : Int), .int .i64 (nc : Int)] 70)) = W1 := ⟨_, rfl⟩
      rw [hW1] at m0 m1 m2 n0 n1 n2 ho1 hB1 hz6 ⊢
      have HO1 := Lib.hid ho1
      have HZ6 := Lib.hid hz6
      have hpz : pb < W1.heap.size := by omega
      have hwz : wr.heap.size < W1.heap.size := by omega
      clear hW1 t1 t2 t3 x1 x2 x3 ho1 hz6 r0 r1
      go_region_held3 (fun w' => w'.cell? ⟨pb, po + na, none⟩ = some (.int .i64 ya) ∧ w'.cell? ⟨pb, po + nb, none⟩ = some (.int .i64 yb) ∧ w'.cell? ⟨pb, po + nc, none⟩ = some (.int .i64 yc) ∧ w'.cell? ⟨wr.heap.size, 0, none⟩ = some (.int .i64 (na : Int)) ∧ w'.cell? ⟨wr.heap.size, 1, none⟩ = some (.int .i64 (nb : Int)) ∧ w'.cell? ⟨wr.heap.size, 2, none⟩ = some (.int .i64 (nc : Int)))
        (first | exact ⟨E0, E1, E2, E3, E4, E5⟩ | exact ⟨F0, F1, F2, F3, F4, F5⟩ | go_keep)
        (first
          | (go_at_call 108; refine (HBF.out _).mono ?_; rintro e w5 ⟨rfl, hb5⟩; have hB5 : Below W1.heap.size W1 w5 := (by first | exact ((Below.refl _ _).drew).trans (hb5.mono (by simp)) | exact hb5); have E0 := (hB5.cell (p := ⟨pb, po + na, none⟩) hpz).trans m0; have E1 := (hB5.cell (p := ⟨pb, po + nb, none⟩) hpz).trans m1; have E2 := (hB5.cell (p := ⟨pb, po + nc, none⟩) hpz).trans m2; have E3 := (hB5.cell (p := ⟨wr.heap.size, 0, none⟩) hwz).trans n0; have E4 := (hB5.cell (p := ⟨wr.heap.size, 1, none⟩) hwz).trans n1; have E5 := (hB5.cell (p := ⟨wr.heap.size, 2, none⟩) hwz).trans n2; have HO6 := Lib.hid (HO1.out.below hB5 (Nat.le_refl _)))
          | (refine step_append_many rfl (.tmp 21) (.tmp 38) rfl w2.heap.size (.slice a5 n5 c5) L (by simp [Act.eval]) (by first | exact HO6.out.below ((Below.refl _ _).alloc (Nat.le_refl _) _) (Nat.le_refl _) | exact HO6.out.below (((Below.refl _ _).alloc (Nat.le_refl _) _).drew) (Nat.le_refl _)) (.slice (some ⟨w5.heap.size, 0, none⟩) 1 1) [⟨ra, rb, rc⟩] (by simp [Act.eval]) (by first | exact sx_one _ ⟨ra, rb, rc⟩ _ | exact (sx_one _ ⟨ra, rb, rc⟩ _).below ((Below.refl _ _).drew) (Nat.le_refl _)) (by simp; omega) (by have := hB5.size; simp; omega) ?_; intro a3 c3 w3 ho3 hg3; have hgw : w5.grownBy w3 (Value.slice a5 n5 c5).ownBlock := gb_trans (World.grownBy_alloc _ _ none) (by first | exact hg3 | exact gb_drewL hg3); have F0 := hgw.cell E0 (fun e => by have := (HLT.out _ e.symm).1; simp at this; omega); have F1 := hgw.cell E1 (fun e => by have := (HLT.out _ e.symm).1; simp at this; omega); have F2 := hgw.cell E2 (fun e => by have := (HLT.out _ e.symm).1; simp at this; omega); have F3 := hgw.cell E3 (fun e => by have := (HLT.out _ e.symm).2; simp at this); have F4 := hgw.cell E4 (fun e => by have := (HLT.out _ e.symm).2; simp at this); have F5 := hgw.cell E5 (fun e => by have := (HLT.out _ e.symm).2; simp at this)))
      have hrow := HO6.out.row
      have hB6 := hB1.trans (hB5.mono (by omega))
      have hz7 := hB5.size
      have hB7 := hB6.grown hgw (by omega) (fun j e => hrow j e)
      go_wp2
      go_roundw
      case rel => exact ⟨k + 1, by omega, by go_num, hB7, by rw [HSU.out]; exact ho3, _, _, _, rfl⟩
      case measure => simp [intOf]; omega
    · have e : k = bs.length := by omega
      subst e
      rw [List.take_length] at HO5
      obtain ⟨L, hL⟩ : ∃ L, L = bs.map (renB p) := ⟨_, rfl⟩
      have hLl : L.length ≤ 100000 := by rw [hL, List.length_map]; omega
      have HLL := Lib.hid hL
      rw [← hL] at HO5
      have HSF := Lib.hid (l01Made_any v (.slice a5 n5 c5) L wr HO5.out.sx hLl)
      obtain ⟨e0, e1, k0, k1⟩ := HSIX.out.2.2
      have f0 := (hB.cell (p := ⟨w.heap.size + 1, 0, none⟩) hlt2).trans e0
      have f1 := (hB.cell (p := ⟨w.heap.size + 1, 1, none⟩) hlt2).trans e1
      have f2 := (hB.frozen (p := ⟨w.heap.size + 1, 0, none⟩) hlt2).trans k0
      have f3 := (hB.frozen (p := ⟨w.heap.size + 1, 1, none⟩) hlt2).trans k1
      clear e0 e1 k0 k1 hL
      go_wp2_with fail
      refine HSF.out.mono ?_
      rintro e w3 ⟨u, rfl, hres, hb3⟩
      obtain ⟨a9, c9, hu⟩ := hres.slice
      obtain ⟨n9, hn9⟩ : ∃ n, n = (sortB L).length := ⟨_, rfl⟩
      rw [← hn9] at hu
      subst hu
      have g0 := (hb3.cell (p := ⟨w.heap.size + 1, 0, none⟩) (by show w.heap.size + 1 < _; omega)).trans f0
      have g1 := (hb3.cell (p := ⟨w.heap.size + 1, 1, none⟩) (by show w.heap.size + 1 < _; omega)).trans f1
      have g2 := (hb3.frozen (p := ⟨w.heap.size + 1, 0, none⟩) (by show w.heap.size + 1 < _; omega)).trans f2
      have g3 := (hb3.frozen (p := ⟨w.heap.size + 1, 1, none⟩) (by show w.heap.size + 1 < _; omega)).trans f3
      have hz9 := hb3.size
      have hB9 : Below w.heap.size w w3 := (hbw2.trans (hB.mono (by omega))).trans (hb3.mono (by omega))
      clear f0 f1 f2 f3 hb3 hn9
      go_wp2
      have hfin := (hres.kept (gb_set2 w3 (w.heap.size + 1) (.int .i64 v) (.slice a9 n9 c9)) (fun r e => by cases e; exact .inl (by omega))).wide (lo' := w.heap.size) (by omega) (gb_set2 w3 (w.heap.size + 1) (.int .i64 v) (.slice a9 n9 c9)).size
      rw [HLL.out] at hfin
      exact bodyPost_ret (v := .agg #[.int .i64 v, .slice a9 n9 c9]) (by simp [results, Try.results97, go_sem, *]) rfl ⟨_, rfl, hfin, below_set2 hB9 (by omega) _ _⟩
end Go.Proofs.Ytlkjacgpjolbdaa

namespace Go.Proofs.Ytlkjacgpjolbdaa
open Go.RowKit Go.Maps
end Go.Proofs.Ytlkjacgpjolbdaa

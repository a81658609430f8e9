
/- BlockGraphDegrees and CommonNeighbours of the program. Products of points and elements of the loop: the two products of the program. A table whose rows grow by appends, one after the other. A region that draws its order and whose last operation writes a cell that it loads: what the loads read must hold till the last operation alone. impl.productTable. -/
import Derived.Test.YtahgialnhomefaaJ11
import Derived.Deep.RegionHeld3
import Derived.Deep.DeepCutAuto
namespace Go.Proofs.Ytahgialnhomefaa
open Go.RowKit Go.Maps
/-- A number of a list in memory. -/
theorem IB.get {w : World} {a : Option Addr} {n c : Nat} {zs : List Int} (h : IB w (.slice a n c) zs) {k : Nat} (hk : k < zs.length) : ∃ b off, a = some ⟨b, off, none⟩ ∧ b < w.heap.size ∧ w.cell? ⟨b, off + k, none⟩ = some (.int .i64 (zs[k]?.getD 0)) := by
  rcases h.2 with ⟨_, _, _, hnil⟩ | ⟨b, off, cap, e, hlt, hI⟩
  · rw [hnil] at hk; simp at hk
  · simp at e
    exact ⟨b, off, e.1, hlt, hI k hk⟩
def bgd (bs : List Blk) (k : Nat) : List Int := (List.range k).map fun i => ((meetI (bs[i]?.getD default) i bs bs.length).length : Int)
theorem bgd_succ (bs : List Blk) (k : Nat) : bgd bs (k + 1) = bgd bs k ++ [((meetI (bs[k]?.getD default) k bs bs.length).length : Int)] := by simp [bgd, List.range_succ]
theorem bgd_len (bs : List Blk) (k : Nat) : (bgd bs k).length = k := by simp [bgd]
def bgdF (v : Int) (bs : List Blk) : List Int × Int := if isSysImpl v bs then (bgd bs bs.length, 0) else ([], 1)
theorem bgdF_len (v : Int) (bs : List Blk) : (bgdF v bs).1.length ≤ bs.length := by
  unfold bgdF
  split
  · rw [bgd_len]; omega
  · simp
/-- The blocks that touch both of two. -/
def comN (bs : List Blk) (i k : Nat) (t : Nat) : Nat := (((meetI (bs[i]?.getD default) i bs bs.length).take t).filter fun z => inL z (meetI (bs[k]?.getD default) k bs bs.length)).length
def comC (v : Int) (bs : List Blk) (i k : Int) : Int := if isSysImpl v bs then (if inP (bs.length : Int) i = true ∧ inP (bs.length : Int) k = true ∧ i ≠ k then 0 else 2) else 1
def comV (v : Int) (bs : List Blk) (i k : Int) : Value := .tuple #[.int .i64 (if comC v bs i k = 0 then (comN bs i.toNat k.toNat bs.length : Int) else 0), .int .i64 (comC v bs i k)]
theorem comN_succ {bs : List Blk} {i k t : Nat} (h : t < (meetI (bs[i]?.getD default) i bs bs.length).length) : comN bs i k (t + 1) = comN bs i k t + if inL ((meetI (bs[i]?.getD default) i bs bs.length)[t]?.getD 0) (meetI (bs[k]?.getD default) k bs bs.length) then 1 else 0 := by
  unfold comN
  rw [List.take_add_one, List.getElem?_eq_getElem h, List.filter_append, List.length_append]
  simp only [Option.toList_some, Option.getD_some, List.filter_cons, List.filter_nil]
  split <;> rfl
theorem comN_end {bs : List Blk} {i k t : Nat} (h : (meetI (bs[i]?.getD default) i bs bs.length).length ≤ t) : comN bs i k t = comN bs i k bs.length := by
  unfold comN
  rw [List.take_of_length_le h, List.take_of_length_le (meetI_len _ _ _ _)]
theorem comN_le (bs : List Blk) (i k t : Nat) : comN bs i k t ≤ t := by
  unfold comN
  exact Nat.le_trans (List.length_filter_le _ _) (by rw [List.length_take]; omega)
set_option maxRecDepth 100000 in
set_option maxHeartbeats 1000000 in
theorem BlockGraphDegrees_any (v : Int) (s : Value) (bs : List Blk) (w : World) (h : SB w s bs) :
    Calls Try.prog 41 #[.agg #[.int .i64 v, s]] w (RJ (bgdF v bs) w) := by
  have hs := h.slice
  have HI := Lib.hid fun W (hb : Below w.heap.size w W) => IsSystem_any v s bs W (h.below hb (Nat.le_refl _))
  have HSB := Lib.hid h
  have hlen := h.2.1
  clear h
  obtain ⟨a0, c0, rfl⟩ := hs
  cases hi : isSysImpl v bs with
  | false =>
    have HV := Lib.hid (show bgdF v bs = ([], 1) by simp [bgdF, hi])
    rw [HV.out]
    rw [hi] at HI
    clear hi HSB
    go_enter Try.func41, Try.ntmps41
    go_wp2_with fail
    refine (HI.out _ ((Below.refl _ _).alloc (Nat.le_refl _) _)).mono ?_
    rintro e w1 ⟨rfl, hb1⟩
    have hb2 := below_new hb1
    clear hb1
    go_wp2
    go_ret2
    exact ⟨_, rfl, OwnJ.nil _ _, hb2⟩
  | true =>
    have HV := Lib.hid (show bgdF v bs = (bgd bs bs.length, 0) by simp [bgdF, hi])
    rw [HV.out]
    have HM := Lib.hid fun (k : Nat) (hk : k < bs.length) W (hb : Below w.heap.size w W) => (show Calls Try.prog 75 #[.agg #[.int .i64 v, .slice a0 bs.length c0], .int .i64 (k : Int)] W (RJ (meetI (bs[k]?.getD default) k bs bs.length, 0) W) by
      have := MeetingBlocks_any v _ bs (k : Int) W (HSB.out.below hb (Nat.le_refl _))
      rw [show meetF v bs (k : Int) = (meetI (bs[k]?.getD default) k bs bs.length, 0) by simp [meetF, hi, inP, hk]] at this
      exact this)
    rw [hi] at HI
    clear hi
    have HN := Lib.hid fun W (hb : Below w.heap.size w W) => blockNumbers_any v _ bs W (HSB.out.below hb (Nat.le_refl _))
    go_enter Try.func41, Try.ntmps41
    go_wp2_with fail
    refine (HI.out _ ((Below.refl _ _).alloc (Nat.le_refl _) _)).mono ?_
    rintro e w1 ⟨rfl, hb1⟩
    have hb2 := below_new hb1
    have q0 := cell_new hb1 0 rfl
    have q1 := cell_new hb1 1 rfl
    have hl1 := block_lt_of_cell q0
    clear hb1
    go_wp2_with fail
    refine (HN.out _ hb2).mono ?_
    rintro e w2 ⟨u, rfl, hO2, hb3⟩
    have p0 := (hb3.cell (p := ⟨w.heap.size, 0, none⟩) hl1).trans q0
    have p1 := (hb3.cell (p := ⟨w.heap.size, 1, none⟩) hl1).trans q1
    have hl2 : w.heap.size < w2.heap.size := by have := hb3.size; omega
    have HB2 := Lib.hid (hb2.trans (hb3.mono hb2.size))
    obtain ⟨a1, c1, hu⟩ := hO2.slice
    rw [numL_len] at hu
    have HIB := Lib.hid (hO2.ib (by rw [numL_len]; exact hlen))
    rw [hu] at HIB
    subst hu
    clear hb2 hb3 q0 q1 hl1 hO2
    go_wp2_with fail
    go_loopw [4, 15] (fun o i wr => ∃ k : Nat, k ≤ bs.length ∧ i = .int .i64 k ∧ Below w2.heap.size w2 wr ∧ OwnJ wr w2.heap.size o (bgd bs k) ∧ ∃ a n c, o = .slice a n c) (fun _ i _ => bs.length - (intOf i).toNat)
    case atStart => exact ⟨0, Nat.zero_le _, rfl, Below.refl _ _, OwnJ.nil _ _, _, _, _, rfl⟩
    case round =>
      obtain ⟨k, hk, rfl, hB, hO, hform⟩ := hrel
      have hz := hB.size
      have r0 := (hB.cell (p := ⟨w.heap.size, 0, none⟩) hl2).trans p0
      have r1 := (hB.cell (p := ⟨w.heap.size, 1, none⟩) hl2).trans p1
      obtain ⟨a3, n3, c3, rfl⟩ := hform
      have HO := Lib.hid hO
      clear hO
      by_cases hkl : k < bs.length
      · obtain ⟨b, off, rfl, hblt, hcell⟩ := (HIB.out.below hB (Nat.le_refl _)).get (k := k) (by rw [numL_len]; exact hkl)
        rw [show (numL bs.length)[k]?.getD 0 = (k : Int) by simp [numL, hkl]] at hcell
        have HS := Lib.hid (bgd_succ bs k)
        have hln : (bgd bs k).length ≤ 1100000 := by rw [bgd_len]; omega
        have HC := Lib.hid (HM.out k hkl wr (HB2.out.trans (hB.mono HB2.out.size)))
        obtain ⟨m, hm⟩ : ∃ m, m = meetI (bs[k]?.getD default) k bs bs.length := ⟨_, rfl⟩
        have hml : m.length ≤ bs.length := by rw [hm]; exact meetI_len _ _ _ _
        rw [← hm] at HC HS
        have g0 : (0 : Int) ≤ (k : Int) := by omega
        have g1 : (k : Int) < (bs.length : Int) := by omega
        clear hm
        go_wp2_with fail
        refine HC.out.mono ?_
        rintro e w3 ⟨u3, rfl, hO3, hb4⟩
        obtain ⟨a5, c5, hu3⟩ := hO3.slice
        subst hu3
        have HO3 := Lib.hid (HO.out.below hb4 (Nat.le_refl _))
        have hz4 := hb4.size
        clear hO3
        go_wp2_with (at_builtin; refine wpList_append_int rfl _ _ rfl w2.heap.size _ (bgd bs k) rfl (HO3.out.below ((Below.refl _ _).alloc (Nat.le_refl _) _) (Nat.le_refl _)) _ _ (m.length : Int) rfl (by simp [go_sem]) hln (by simp; omega) ?_; intro g' cap' w4 hO4 hg4)
        have hrow := HO3.out.row
        have hgo : w3.grownBy w4 (Value.slice a3 n3 c3).ownBlock := gb_trans (World.grownBy_alloc _ _ none) hg4
        have hB3 := hB.trans (hb4.mono hz)
        clear hg4
        go_roundw
        case rel => exact ⟨k + 1, by omega, by go_num, hB3.grown hgo (by omega) (fun j e => hrow j e), by rw [HS.out]; exact hO4, _, _, _, rfl⟩
        case measure => simp [intOf]; omega
      · have e : k = bs.length := by omega
        subst e
        go_wp2
        go_ret2
        exact ⟨_, rfl, ownsRow_base HO.out (by omega), HB2.out.trans (hB.mono (by omega))⟩
end Go.Proofs.Ytahgialnhomefaa

namespace Go.Proofs.Ytahgialnhomefaa
open Go.RowKit Go.Maps
/-- The products: of points, and of elements of the loop. -/
def prd (κ n : Nat) (bs : List Blk) (a b : Nat) : Int :=
  if κ = 0 then (if a = b then (a : Int) else tabN bs a b) else if a = b then (n : Int) else if a = n then (b : Int) else if b = n then (a : Int) else tabN bs a b
/-- A place of a table in memory. -/
theorem SSR.get {w : World} {lo G : Nat} {gs caps : Nat → Nat} {n : Nat} {T : Nat → Nat → Int} (h : SSR w lo G gs caps n (rowT n T)) {a b : Nat} (ha : a < n) (hb : b < n) :
    w.cell? ⟨G, a, none⟩ = some (.slice (some ⟨gs a, 0, none⟩) n (caps a)) ∧ w.cell? ⟨gs a, b, none⟩ = some (.int .i64 (T a b)) := by
  have h1 := h.cell a ha
  rw [rowT_len] at h1
  refine ⟨h1, ?_⟩
  have h2 := (h.row a ha).at_ b (by rw [rowT_len]; exact hb)
  rw [rowT_at _ _ hb, Nat.zero_add] at h2
  exact h2
set_option maxRecDepth 100000 in
theorem ofPoints_any (G lo : Nat) (gs caps : Nat → Nat) (n c : Nat) (bs : List Blk) (a b : Nat) (w : World) (h : SSR w lo G gs caps n (rowT n (tabN bs))) (ha : a < n) (hb : b < n) :
    Calls Try.prog 113 #[.slice (some ⟨G, 0, none⟩) n c, .int .i64 (a : Int), .int .i64 (b : Int)] w (RS (.int .i64 (prd 0 n bs a b)) w) := by
  obtain ⟨c1, c2⟩ := h.get ha hb
  have a0 : (0 : Int) ≤ (a : Int) := by omega
  have a1 : (a : Int) < (n : Int) := by omega
  have b0 : (0 : Int) ≤ (b : Int) := by omega
  have b1 : (b : Int) < (n : Int) := by omega
  by_cases hab : a = b
  · subst hab
    have e : ((a : Int) == (a : Int)) = true := by simp
    go_enter Try.func113, Try.ntmps113
    go_wp2
    go_ret
    exact RS_of (int_eq (by simp [prd]))
  · have e : ((a : Int) == (b : Int)) = false := by simp; omega
    have HV := Lib.hid (show prd 0 n bs a b = tabN bs a b by simp [prd, hab])
    rw [HV.out]
    clear hab h HV
    go_enter Try.func113, Try.ntmps113
    go_wp2
    go_ret
    exact RS_of rfl
set_option maxRecDepth 100000 in
theorem inLoop_any (G lo : Nat) (gs caps : Nat → Nat) (n c : Nat) (bs : List Blk) (a b : Nat) (w : World) (h : SSR w lo G gs caps n (rowT n (tabN bs))) (ha : a < n + 1) (hb : b < n + 1) :
    Calls Try.prog 114 #[.slice (some ⟨G, 0, none⟩) n c, .int .i64 (a : Int), .int .i64 (b : Int)] w (RS (.int .i64 (prd 1 n bs a b)) w) := by
  by_cases hab : a = b
  · subst hab
    have e : ((a : Int) == (a : Int)) = true := by simp
    clear h
    go_enter Try.func114, Try.ntmps114
    go_wp2
    go_ret
    exact RS_of (int_eq (by simp [prd]))
  · have e : ((a : Int) == (b : Int)) = false := by simp; omega
    by_cases han : a = n
    · have e2 : ((a : Int) == (n : Int)) = true := by simp; omega
      have HV := Lib.hid (show prd 1 n bs a b = (b : Int) by simp [prd, han]; omega)
      rw [HV.out]
      clear h hab han HV
      go_enter Try.func114, Try.ntmps114
      go_wp2
      go_ret
      exact RS_of rfl
    · have e2 : ((a : Int) == (n : Int)) = false := by simp; omega
      by_cases hbn : b = n
      · have e3 : ((b : Int) == (n : Int)) = true := by simp; omega
        have HV := Lib.hid (show prd 1 n bs a b = (a : Int) by simp [prd, han, hbn])
        rw [HV.out]
        clear h hab han hbn HV
        go_enter Try.func114, Try.ntmps114
        go_wp2
        go_ret
        exact RS_of rfl
      · have e3 : ((b : Int) == (n : Int)) = false := by simp; omega
        obtain ⟨c1, c2⟩ := h.get (a := a) (b := b) (by omega) (by omega)
        have a0 : (0 : Int) ≤ (a : Int) := by omega
        have a1 : (a : Int) < (n : Int) := by omega
        have b0 : (0 : Int) ≤ (b : Int) := by omega
        have b1 : (b : Int) < (n : Int) := by omega
        have HV := Lib.hid (show prd 1 n bs a b = tabN bs a b by simp [prd, hab, han, hbn])
        rw [HV.out]
        clear h hab han hbn HV
        go_enter Try.func114, Try.ntmps114
        go_wp2
        go_ret
        exact RS_of rfl
set_option maxRecDepth 100000 in
theorem elementCount_any (κ n : Nat) (hκ : κ ≤ 1) (hn : n ≤ 15) (s : Value) (w : World) : Calls Try.prog 88 #[.agg #[.int .i64 (n : Int), s], .int .i64 (κ : Int)] w (RV (.int .i64 ((n + κ : Nat) : Int)) w) := by
  have hw : IntKind.i64.wrap ((n : Int) + (κ : Int)) = ((n + κ : Nat) : Int) := by rw [IntWalk.i64_in _ (by omega)]; omega
  have hb := (Below.refl w.heap.size w).alloc (Nat.le_refl _) (.cells #[.int .i64 (n : Int), s] 30)
  go_enter Try.func88, Try.ntmps88
  go_wp2
  go_ret
  exact RV_of rfl hb
end Go.Proofs.Ytahgialnhomefaa

namespace Go.Proofs.Ytahgialnhomefaa
open Go.RowKit Go.Maps
theorem step_append_intG {w : World} {ops : Array Oper} {o : Oper} {a : Act} {K : Act → World → Prop} {Q : Exit → Act → World → Prop} {E : Prop} (hgd : o.guard = none) (s x : Operand)
    (ho : o.op = .call { callee := .builtin .append, args := #[s, x], argTypes := #[38, 38] })
    (base : Nat) (v : Value) (zs : List Int) (hs : a.eval s = v) (hown : OwnJ w base v zs) (b0 c : Nat) (y : Int) (hx : a.eval x = .slice (some ⟨b0, 0, none⟩) 1 c) (hy : w.cell? ⟨b0, 0, none⟩ = some (.int .i64 y)) (hl : zs.length ≤ 1100000) (hb : base ≤ w.heap.size)
    (h : ∀ (g cap : Nat) (w' : World), OwnJ w' base (.slice (some ⟨g, 0, none⟩) (zs.length + 1) cap) (zs ++ [y]) → w.grownBy w' v.ownBlock → (v.ownBlock = some g ∨ g = w.heap.size) → K (a.put o.dst (.slice (some ⟨g, 0, none⟩) (zs.length + 1) cap)) w') :
    if Region.wanted o (yielded ops a.tmps) = true then Oper.wp Try.prog o a w K Q else E := by
  have hw : Region.wanted o (yielded ops a.tmps) = true := by simp [Region.wanted, hgd]
  rw [if_pos hw]
  obtain ⟨i0, hi, hz0, hz1, hz2⟩ := info_parts infoInt64
  obtain ⟨v', w', h1, h2, h3, _, h4⟩ := run_append_own_at (P := Try.prog) w base 38 o.type 2 i0 _ 1 8 Try.underlying38 hi hz0 hz1 hz2 rfl (by decide) v zs.length (zs.map (Value.int .i64)) hown ⟨b0, 0, none⟩ 1 c [.int .i64 y] rfl (fun j u hj => by
    rw [addr_at, Nat.zero_add]
    match j, hj with
    | 0, hj => simp at hj; rw [← hj]; exact hy
    | j + 1, hj => simp at hj) (fun u hu => by
    simp at hu
    rw [hu]
    rfl) (by unfold maxLen; omega) (by omega) hb
  have h2' : OwnJ w' base v' (zs ++ [y]) := by unfold OwnJ; rw [List.length_append, List.length_singleton, List.map_append, List.map_singleton]; exact h2
  have hf : ∃ g cap, v' = .slice (some ⟨g, 0, none⟩) (zs.length + 1) cap := by
    rcases h2.2 with ⟨e, e2⟩ | ⟨g, cap, _, e, _⟩
    · omega
    · exact ⟨g, cap, e⟩
  obtain ⟨g, cap, rfl⟩ := hf
  unfold Oper.wp execOp
  simp only [ho, resolve, invoke, builtin, Sem.run_bind, Sem.run_pure, Result.andThen_ok, List.map_toArray, List.map_cons, List.map_nil, hs, hx, h1]
  refine h g cap w' h2' h3 ?_
  rcases h4 with h4 | h4
  · exact .inl (by rw [← h4]; rfl)
  · exact .inr (by simpa [Value.ownBlock] using h4)
theorem OwnJ.apartP {W W' : World} {base : Nat} {v : Value} {zs : List Int} {row : Option Nat} (h : OwnJ W base v zs) (hg : W.grownBy W' row) (ap : ∀ r, row = some r → v.ownBlock ≠ some r) : OwnJ W' base v zs := World.ownsRow.kept h hg (by
  cases row with
  | none =>
    cases hv : v.ownBlock with
    | none => exact .inl rfl
    | some g => exact .inr (by simp)
  | some r => exact .inr (ap r rfl))
theorem OwnJ.at0 {w : World} {base : Nat} {u : Value} {zs : List Int} (h : OwnJ w base u zs) (h0 : 0 < zs.length) (hl : zs.length ≤ 1100000) : ∃ g cap, u = .slice (some ⟨g, 0, none⟩) zs.length cap ∧ OwnAtI w g zs ∧ base ≤ g := by
  obtain ⟨a, c, rfl⟩ := h.slice
  rcases h.2 with ⟨hv, h1⟩ | ⟨g, cap, cur, hv, hb, hcur, _⟩
  · omega
  · cases hv
    obtain ⟨i1, _, i3, _⟩ := h.ints0 hl
    exact ⟨g, _, rfl, ⟨i3, i1, fun o => by simp [World.frozen?, hcur]⟩, hb⟩
/-- The rows before a are whole, the row a has its first b numbers, the rest is nil. -/
structure TabG (W : World) (lo G n : Nat) (gs caps : Nat → Nat) (P : Nat → Nat → Int) (a b : Nat) (u : Value) : Prop where
  ssr : SSR W lo G gs caps a (rowT n P)
  own : OwnJ W lo u ((rowT n P a).take b)
  ne : u.ownBlock ≠ some G
  ap : ∀ k, k < a → u.ownBlock ≠ some (gs k)
  cell : W.cell? ⟨G, a, none⟩ = some u
  rest : ∀ q, a < q → q < n → W.cell? ⟨G, q, none⟩ = some (.slice none 0 0)
  free : ∀ o, W.frozen? ⟨G, o, none⟩ = false
variable {W W' : World} {lo G n : Nat} {gs caps : Nat → Nat} {P : Nat → Nat → Int} {a b : Nat} {u : Value}
theorem TabG.below (h : TabG W lo G n gs caps P a b u) (hb : Below W.heap.size W W') : TabG W' lo G n gs caps P a b u :=
  ⟨h.ssr.below hb (Nat.le_refl _), h.own.below hb (Nat.le_refl _), h.ne, h.ap, (hb.cell (p := ⟨G, a, none⟩) h.ssr.lt).trans h.cell, fun q h1 h2 => (hb.cell (p := ⟨G, q, none⟩) h.ssr.lt).trans (h.rest q h1 h2), fun o => (hb.frozen (p := ⟨G, o, none⟩) h.ssr.lt).trans (h.free o)⟩
theorem TabG.blk (h : TabG W lo G n gs caps P a b u) : ∀ r, u.ownBlock = some r → lo ≤ r ∧ r < W.heap.size := fun r e => by
  rcases h.own.2 with ⟨hv, _⟩ | ⟨g, cap, cur, hv, hb, hcur, _⟩
  · rw [hv] at e; simp [Value.ownBlock] at e
  · rw [hv] at e
    obtain rfl : g = r := by simpa [Value.ownBlock] using e
    exact ⟨hb, (Array.getElem?_eq_some_iff.1 hcur).1⟩
theorem TabG.step (h : TabG W lo G n gs caps P a b u) (hb : b < n) (hg : W.grownBy W' u.ownBlock) {g cap : Nat} (ho : OwnJ W' lo (.slice (some ⟨g, 0, none⟩) (((rowT n P a).take b).length + 1) cap) ((rowT n P a).take b ++ [P a b])) (hG : u.ownBlock = some g ∨ W.heap.size ≤ g) :
    TabG (W'.setCell ⟨G, a, none⟩ (.slice (some ⟨g, 0, none⟩) (((rowT n P a).take b).length + 1) cap)) lo G n gs caps P a (b + 1) (.slice (some ⟨g, 0, none⟩) (((rowT n P a).take b).length + 1) cap) := by
  have hst := only_setCell (only_refl W' (some G)) (p := ⟨G, a, none⟩) rfl (.slice (some ⟨g, 0, none⟩) (((rowT n P a).take b).length + 1) cap)
  have hl : (rowT n P a).take (b + 1) = (rowT n P a).take b ++ [P a b] := by
    rw [List.take_add_one, List.getElem?_eq_getElem (by rw [rowT_len]; exact hb)]
    have := rowT_at P a hb
    rw [List.getElem?_eq_getElem (by rw [rowT_len]; exact hb)] at this
    simp only [Option.getD_some] at this
    rw [this]; rfl
  have hne : g ≠ G := by
    rcases hG with e | e
    · intro h0; exact h.ne (h0 ▸ e)
    · have := h.ssr.lt; omega
  have hap : ∀ k, k < a → g ≠ gs k := fun k hk => by
    rcases hG with e | e
    · intro h0; exact h.ap k hk (h0 ▸ e)
    · have := (h.ssr.row k hk).lt; omega
  have hcell : W'.cell? ⟨G, a, none⟩ = some u := hg.cell h.cell (fun e => h.ne e.symm)
  have hs := h.ssr.kept hg (fun e => h.ne e.symm) (fun k hk e => h.ap k hk e.symm)
  refine ⟨⟨fun k hk => ?_, fun k hk => ?_, hs.ne, hs.inc, hs.low, by have := hs.lt; simpa [World.setCell] using this⟩, ?_, by simp [Value.ownBlock]; exact hne, fun k hk => by simp [Value.ownBlock]; exact hap k hk, World.cell?_setCell_same' _ _ _ (by rw [hcell]; rfl), fun q h1 h2 => ?_, fun o => ?_⟩
  · rw [World.cell?_setCell_other _ _ _ _ (by simp <;> omega)]; exact hs.cell k hk
  · exact (hs.row k hk).kept hst (by have := hs.ne k hk; simpa using this)
  · rw [hl]
    exact ho.apartP hst (fun r e => by cases e; simp [Value.ownBlock]; exact hne)
  · rw [World.cell?_setCell_other _ _ _ _ (by simp <;> omega)]
    exact hg.cell (h.rest q h1 h2) (fun e => h.ne e.symm)
  · rw [World.frozen?_setCell]
    exact (World.frozen?_of_block (w := W) (a := ⟨G, o, none⟩) (hg.block G h.ssr.lt (fun e => h.ne e.symm))).trans (h.free o)
/-- The row a is whole. -/
theorem TabG.full (h : TabG W lo G n gs caps P a n u) (hn : 0 < n) (hn2 : n ≤ 1000) : ∃ g cap, SSR W lo G (fun q => if q = a then g else gs q) (fun q => if q = a then cap else caps q) (a + 1) (rowT n P) := by
  have ho := h.own
  rw [List.take_of_length_le (by rw [rowT_len]; exact Nat.le_refl n)] at ho
  obtain ⟨g, cap, rfl, h1, h2⟩ := ho.at0 (by rw [rowT_len]; exact hn) (by rw [rowT_len]; omega)
  have hne : g ≠ G := fun e => h.ne (by simp [Value.ownBlock, e])
  have hap : ∀ k, k < a → g ≠ gs k := fun k hk e => h.ap k hk (by simp [Value.ownBlock, e])
  refine ⟨g, cap, fun k hk => ?_, fun k hk => ?_, fun k hk => ?_, fun j k hjk hk => ?_, fun k hk => ?_, h.ssr.lt⟩
  · by_cases e : k = a
    · subst e; simp only [if_pos]; exact h.cell
    · simp only [if_neg e]; exact h.ssr.cell k (by omega)
  · by_cases e : k = a
    · subst e; simp only [if_pos]; exact h1
    · simp only [if_neg e]; exact h.ssr.row k (by omega)
  · by_cases e : k = a
    · subst e; simp only [if_pos]; exact hne
    · simp only [if_neg e]; exact h.ssr.ne k (by omega)
  · have e1 : j ≠ a := by omega
    simp only [if_neg e1]
    by_cases e : k = a
    · subst e; simp only [if_pos]; exact (hap j hjk).symm
    · simp only [if_neg e]; exact h.ssr.inc j k hjk (by omega)
  · by_cases e : k = a
    · subst e; simp only [if_pos]; exact h2
    · simp only [if_neg e]; exact h.ssr.low k (by omega)
/-- The next row is begun. -/
theorem TabG.begin (hs : SSR W lo G gs caps a (rowT n P)) (ha : a < n) (hr : ∀ q, a ≤ q → q < n → W.cell? ⟨G, q, none⟩ = some (.slice none 0 0)) (hf : ∀ o, W.frozen? ⟨G, o, none⟩ = false) : TabG W lo G n gs caps P a 0 (.slice none 0 0) :=
  ⟨hs, by rw [List.take_zero]; exact OwnJ.nil _ _, by simp [Value.ownBlock], fun k _ => by simp [Value.ownBlock], hr a (Nat.le_refl a) ha, fun q h1 h2 => hr q (by omega) h2, hf⟩
end Go.Proofs.Ytahgialnhomefaa

namespace Go.Proofs.Ytahgialnhomefaa
section
variable {P : Program} {ops : Array Oper} {Q : Exit → Act → World → Prop} {md : Region.Mode} {S : World → Prop}
/-- Whatever order is picked from here on; S holds behind every operation but the last one. -/
def wpAnyB (P : Program) (md : Region.Mode) (ops : Array Oper) (Q : Exit → Act → World → Prop) (S : World → Prop) : Nat → Array Bool → Act → World → Prop
  | 0, listed, a, w => Region.ready md ops listed = [] ∧ Q .normal a w
  | fuel + 1, listed, a, w =>
    (Region.ready md ops listed = [] → Q .normal a w) ∧
    ∀ i ∈ Region.ready md ops listed, wpOp P ops Q i (fun a' w' => ((∃ k, (listed.setIfInBounds i true).getD k true = false) → S w') ∧ wpAnyB P md ops Q S fuel (listed.setIfInBounds i true) a' w') a w
theorem wpAny_of_B : ∀ (fuel : Nat) (listed : Array Bool) (a : Act) (w : World), wpAnyB P md ops Q S fuel listed a w → wpAny P md ops Q fuel listed a w
  | 0, _, _, _, h => h
  | fuel + 1, _, _, _, h => ⟨h.1, fun i hi => wpOp_mono (fun a' w' h' => wpAny_of_B fuel _ a' w' h'.2) (h.2 i hi)⟩
/-- An operation that somebody else waits for may be taken first where S holds till the last operation. -/
theorem wpAnyB_first {i k : Nat} {oi ok : Oper} {v : Value} (hi : ops[i]? = some oi) (hk : ops[k]? = some ok) (hki : ∃ e ∈ ok.after, Region.binds md e = true ∧ e.on = i) (hsel : ∀ (j : Nat) (o : Oper) cs b, ops[j]? = some o → o.op ≠ .select cs b)
    (hQ : ∀ c a w, Q (.panic c) (a.put oi.dst v) w → Q (.panic c) a w) :
    ∀ (fuel : Nat) (listed : Array Bool) (a : Act) (w : World),
      (∀ j oj, ops[j]? = some oj → j ≠ i → listed.getD j true = false → (∀ e ∈ oj.after, Region.binds md e = true → e.on ≠ i) → oi.apart ops oj = true) →
      i ∈ Region.ready md ops listed → listed.getD k true = false → i ≠ k → YieldsIf P ops S oi v a → S w →
      wpAnyB P md ops Q S fuel (listed.setIfInBounds i true) (a.put oi.dst v) w → wpAnyB P md ops Q S (fuel + 1) listed a w := by
  intro fuel
  induction fuel with
  | zero =>
    intro listed a w _ hr hku hik hy hS H
    refine ⟨fun h => (by rw [h] at hr; cases hr), fun j hj => ?_⟩
    by_cases hji : j = i
    · subst hji; exact hy.wpOp hi hS ⟨fun _ => hS, H⟩
    · have := ready_mono hj hji
      rw [H.1] at this
      cases this
  | succ fuel ih =>
    intro listed a w hfree hr hku hik hy hS H
    refine ⟨fun h => (by rw [h] at hr; cases hr), fun j hj => ?_⟩
    by_cases hji : j = i
    · subst hji; exact hy.wpOp hi hS ⟨fun _ => hS, H⟩
    · have h1 := H.2 j (ready_mono hj hji)
      obtain ⟨hjun, oj, hoj, hall⟩ := mem_ready.1 hj
      have hnot : ∀ e ∈ oj.after, Region.binds md e = true → e.on ≠ i := fun e he hb heq => by
        have h1 := hall e he hb
        have h0 := (mem_ready.1 hr).1
        rw [heq] at h1
        rcases Nat.lt_or_ge i listed.size with h' | h'
        · simp [h'] at h0 h1; rw [h0] at h1; cases h1
        · simp [Array.getElem?_eq_none h'] at h1
      have hjk : j ≠ k := fun e => by
        subst e
        rw [hk] at hoj
        cases hoj
        obtain ⟨e, he, hb, hon⟩ := hki
        exact hnot e he hb hon
      have h2 := wpOp_putIf hoj (hfree j oj hoj hji hjun hnot) (fun cs b => hsel i oi cs b hi) (fun cs b => hsel j oj cs b hoj) hQ hy h1
      have hfree' : ∀ k ok, ops[k]? = some ok → k ≠ i → (listed.setIfInBounds j true).getD k true = false →
          (∀ e ∈ ok.after, Region.binds md e = true → e.on ≠ i) → oi.apart ops ok = true := fun k ok hk hki hun hno => by
        refine hfree k ok hk hki ?_ hno
        by_cases hjk : j = k
        · subst hjk; exact hjun
        · rw [getD_set_ne true hjk] at hun; exact hun
      have hku' : (listed.setIfInBounds j true).getD k true = false := by rw [getD_set_ne true hjk]; exact hku
      refine wpOp_mono (fun a' w' h3 => ?_) h2
      have hS' : S w' := h3.2.1 ⟨k, by rw [getD_set_ne true hjk, getD_set_ne true hik]; exact hku⟩
      refine ⟨fun _ => hS', ih (listed.setIfInBounds j true) a' w' hfree' (ready_mono hr (Ne.symm hji)) hku' hik h3.1 hS' ?_⟩
      rw [Array.setIfInBounds_comm _ _ hji]
      exact h3.2.2
theorem get_of_drop {ops : Array Oper} {i : Nat} {o : Oper} {r : List Oper} (h : ops.toList.drop i = o :: r) : ops[i]? = some o := by
  have : (ops.toList.drop i)[0]? = some o := by rw [h]; rfl
  rw [List.getElem?_drop] at this
  simpa using this
/-- Somebody who has not come up waits for number i. -/
def waits (md : Region.Mode) (ops : Array Oper) (listed : Array Bool) (i : Nat) : Bool :=
  (List.range ops.size).any fun k => k != i && !listed.getD k true && match ops[k]? with
    | some ok => ok.after.any fun e => Region.binds md e && e.on == i
    | none => false
theorem wpAnyB_take {i : Nat} {oi : Oper} {r : List Oper} {v : Value} {fuel : Nat} {listed : Array Bool} {a : Act} {w : World} (hi : ops.toList.drop i = oi :: r)
    (hs : Region.noSelect ops = true) (hf : Region.free md ops listed i = true) (hr : (Region.ready md ops listed).contains i = true) (hw : waits md ops listed i = true)
    (hQ : ∀ c a w, Q (.panic c) (a.put oi.dst v) w → Q (.panic c) a w) (hy : YieldsIf P ops S oi v a) (hS : S w)
    (h : wpAnyB P md ops Q S fuel (listed.setIfInBounds i true) (a.put oi.dst v) w) : wpAnyB P md ops Q S (fuel + 1) listed a w := by
  unfold waits at hw
  rw [List.any_eq_true] at hw
  obtain ⟨k, _, hk⟩ := hw
  rw [Bool.and_eq_true, Bool.and_eq_true] at hk
  obtain ⟨⟨hki, hku⟩, hk⟩ := hk
  cases hok : ops[k]? with
  | none => rw [hok] at hk; cases hk
  | some ok =>
    rw [hok] at hk
    obtain ⟨e, he, hb⟩ := Array.any_eq_true'.1 hk
    simp only [Bool.and_eq_true, beq_iff_eq] at hb
    exact wpAnyB_first (get_of_drop hi) hok ⟨e, he, hb⟩ (Region.noSelect_spec hs) hQ fuel listed a w (Region.free_spec (get_of_drop hi) hf) (by simpa using hr) (by simpa using hku) (fun e => by simp [e] at hki) hy hS h
def AllReadyB (P : Program) (md : Region.Mode) (ops : Array Oper) (Q : Exit → Act → World → Prop) (S : World → Prop) (fuel : Nat) (listed : Array Bool) (a : Act) (w : World) (rs : List Nat) : Prop :=
  ∀ i ∈ rs, wpOp P ops Q i (fun a' w' => ((∃ k, (listed.setIfInBounds i true).getD k true = false) → S w') ∧ wpAnyB P md ops Q S fuel (listed.setIfInBounds i true) a' w') a w
theorem AllReadyB.nil {fuel : Nat} {listed : Array Bool} {a : Act} {w : World} : AllReadyB P md ops Q S fuel listed a w [] := fun _ h => by cases h
theorem AllReadyB.cons {fuel : Nat} {listed : Array Bool} {a : Act} {w : World} {i : Nat} {o : Oper} {r : List Oper} {rs : List Nat} (ho : ops.toList.drop i = o :: r)
    (h : ∀ K' : Act → World → Prop, Shut (∀ a w, S w → (S w → wpAnyB P md ops Q S fuel (listed.setIfInBounds i true) a w) → K' a w) → if Region.wanted o (yielded ops a.tmps) = true then Oper.wp P o a w K' Q else K' (a.put o.dst undef) w)
    (hs : AllReadyB P md ops Q S fuel listed a w rs) : AllReadyB P md ops Q S fuel listed a w (i :: rs) := fun j hj => by
  rcases List.mem_cons.1 hj with rfl | hj
  · exact wpOp_step (get_of_drop ho) (fun K' hK => h K' (fun a w hS hW => hK a w ⟨fun _ => hS, hW hS⟩))
  · exact hs j hj
/-- The last operation: nothing is to be shown behind it but the post. -/
theorem AllReadyB.last {fuel : Nat} {listed : Array Bool} {a : Act} {w : World} {i : Nat} {o : Oper} {r : List Oper} (ho : ops.toList.drop i = o :: r) (hl : (listed.setIfInBounds i true).toList.all id = true) (hr : Region.ready md ops (listed.setIfInBounds i true) = [])
    (h : ∀ K' : Act → World → Prop, Shut (∀ a w, Q .normal a w → K' a w) → if Region.wanted o (yielded ops a.tmps) = true then Oper.wp P o a w K' Q else K' (a.put o.dst undef) w) : AllReadyB P md ops Q S fuel listed a w [i] := fun j hj => by
  have e := List.mem_singleton.1 hj
  subst e
  refine wpOp_step (get_of_drop ho) (fun K' hK => h K' (fun a w hq => hK a w ⟨fun ⟨k, hk⟩ => ?_, ?_⟩))
  · exfalso
    rw [Array.getD_eq_getD_getElem?] at hk
    cases hg : (listed.setIfInBounds j true)[k]? with
    | none => rw [hg] at hk; cases hk
    | some b =>
      rw [hg] at hk
      have hb : b = false := hk
      subst hb
      have := List.all_eq_true.1 hl false (by rw [Array.mem_toList_iff]; exact Array.mem_of_getElem? hg)
      cases this
  · cases fuel with
    | zero => exact ⟨hr, hq⟩
    | succ f => exact ⟨fun _ => hq, by rw [hr]; simp⟩
theorem wpAnyB_ready {rs : List Nat} {fuel : Nat} {listed : Array Bool} {a : Act} {w : World} (hr : Region.ready md ops listed = rs) (hne : rs ≠ [])
    (h : AllReadyB P md ops Q S fuel listed a w rs) : wpAnyB P md ops Q S (fuel + 1) listed a w :=
  ⟨fun h0 => absurd (hr ▸ h0) hne, hr ▸ h⟩
theorem wp_region_B {id : Nat} {a : Act} {w : World} (n : Nat) (hm : P.follows .mixedOrders = true) (hn : ops.size = n)
    (h : wpAnyB P .any ops Q S n (Array.replicate n false) a w.drew) : (Code.region id ops true).wp P Q a w := by
  subst hn
  exact wp_region_any hm (wpAny_of_B _ _ _ _ h)
end
end Go.Proofs.Ytahgialnhomefaa

namespace Go.Proofs.Ytahgialnhomefaa
open Go.RowKit Go.Maps
set_option maxRecDepth 100000 in
theorem products_any (w : World) : Calls Try.prog 87 #[] w (fun e w' => e = .returned (.slice (some ⟨w.heap.size, 0, none⟩) 2 2) ∧ Below w.heap.size w w' ∧ w'.cell? ⟨w.heap.size, 0, none⟩ = some (.func (.func 113) #[] #[]) ∧ w'.cell? ⟨w.heap.size, 1, none⟩ = some (.func (.func 114) #[] #[])) := by
  go_enter Try.func87, Try.ntmps87
  go_wp2
  go_ret
  exact ⟨rfl, (Below.refl _ _).alloc (Nat.le_refl _) _, by simp [go_sem], by simp [go_sem]⟩
def prdId (κ : Nat) : Nat := if κ = 0 then 113 else 114
theorem prd_any (κ : Nat) (hκ : κ = 0 ∨ κ = 1) (G lo : Nat) (gs caps : Nat → Nat) (n c : Nat) (bs : List Blk) (a b : Nat) (w : World) (h : SSR w lo G gs caps n (rowT n (tabN bs))) (ha : a < n + κ) (hb : b < n + κ) :
    Calls Try.prog (prdId κ) #[.slice (some ⟨G, 0, none⟩) n c, .int .i64 (a : Int), .int .i64 (b : Int)] w (RS (.int .i64 (prd κ n bs a b)) w) := by
  rcases hκ with rfl | rfl
  · exact ofPoints_any G lo gs caps n c bs a b w h ha hb
  · exact inLoop_any G lo gs caps n c bs a b w h ha hb
theorem prd_cell {κ F X : Nat} {W : World} (hκ : κ = 0 ∨ κ = 1) (hF : F = prdId κ) (f0 : W.cell? ⟨X, 0, none⟩ = some (.func (.func 113) #[] #[])) (f1 : W.cell? ⟨X, 1, none⟩ = some (.func (.func 114) #[] #[])) : W.cell? ⟨X, κ, none⟩ = some (.func (.func F) #[] #[]) := by
  rw [hF]
  rcases hκ with rfl | rfl
  · exact f0
  · exact f1
/-- What the loads of the last region read. -/
def PrdX (X : Nat) (u v : Value) (W : World) : Prop := W.cell? ⟨X, 0, none⟩ = some u ∧ W.cell? ⟨X, 1, none⟩ = some v
def PrdS (G a : Nat) (u : Value) (W : World) : Prop := W.cell? ⟨G, a, none⟩ = some u
set_option maxRecDepth 100000 in
set_option maxHeartbeats 4000000 in
theorem productTable_any (κ : Nat) (hκ : κ = 0 ∨ κ = 1) (n : Nat) (s : Value) (bs : List Blk) (w : World) (h : SB w s bs) (hi : isSysImpl (n : Int) bs = true) :
    Calls Try.prog 56 #[.agg #[.int .i64 (n : Int), s], .int .i64 (κ : Int)] w (fun e w' => ∃ G gs caps, e = .returned (.slice (some ⟨G, 0, none⟩) (n + κ) (n + κ)) ∧ w.heap.size ≤ G ∧ Below w.heap.size w w' ∧ SSR w' w.heap.size G gs caps (n + κ) (rowT (n + κ) (prd κ n bs))) := by
  have hs := h.slice
  obtain ⟨hv3, hv15, hb35⟩ := sys_size hi
  have HT := Lib.hid fun W (hb : Below w.heap.size w W) => thirdsOf_any n s bs W (h.below hb (Nat.le_refl _)) hi
  obtain ⟨N, hN⟩ : ∃ N, N = n + κ := ⟨_, rfl⟩
  have hmo := mkRows N (by omega)
  have HE := Lib.hid fun W => elementCount_any κ n (by omega) (by omega) s W
  have HP := Lib.hid fun G lo gs caps a b W h ha hb => prd_any κ hκ G lo gs caps n n bs a b W h (by rw [← hN]; exact ha) (by rw [← hN]; exact hb)
  rw [← hN] at HE
  have HNN := Lib.hid hN
  rw [← hN]
  obtain ⟨F, hF⟩ : ∃ F, F = prdId κ := ⟨_, rfl⟩
  rw [← hF] at HP
  obtain ⟨R, hR⟩ : ∃ R, R = prd κ n bs := ⟨_, rfl⟩
  rw [← hR] at HP ⊢
  have HFF := Lib.hid hF
  have HF2 := Lib.hid (show F = 113 ∨ F = 114 by rw [hF]; unfold prdId; split <;> simp)
  have hN3 : 3 ≤ N := by omega
  have hN16 : N ≤ 16 := by omega
  clear h hi hN hF hR hv15 hb35 hv3
  obtain ⟨a0, c0, rfl⟩ := hs
  have HKK := Lib.hid hκ
  have hk0 : (0 : Int) ≤ (κ : Int) := by omega
  have hk2 : (κ : Int) < 2 := by omega
  clear hκ
  go_enter Try.func56, Try.ntmps56
  go_wp2_with fail
  have hbA : Below w.heap.size w (w.alloc (.cells #[.int .i64 (n : Int), .slice a0 bs.length c0] 30)) := (Below.refl _ _).alloc (Nat.le_refl _) _
  obtain ⟨WA, hWA⟩ : ∃ WA, WA = w.alloc (.cells #[.int .i64 (n : Int), .slice a0 bs.length c0] 30) := ⟨_, rfl⟩
  have x0 : WA.cell? ⟨w.heap.size, 0, none⟩ = some (.int .i64 (n : Int)) := by rw [hWA]; simp [go_sem]
  have x1 : WA.cell? ⟨w.heap.size, 1, none⟩ = some (.slice a0 bs.length c0) := by rw [hWA]; simp [go_sem]
  have hzA : WA.heap.size = w.heap.size + 1 := by rw [hWA]; simp
  rw [← hWA] at hbA ⊢
  clear hWA
  have HBA := Lib.hid hbA
  clear hbA
  go_upto_region 1 with fail
  refine wp_region_B (S := PrdX w.heap.size (.int .i64 (n : Int)) (.slice a0 bs.length c0)) 8 (by kernel_rfl) (by kernel_rfl) ?_
  have hS0 : PrdX w.heap.size (.int .i64 (n : Int)) (.slice a0 bs.length c0) WA.drew := ⟨x0, x1⟩
  refine wpAnyB_take (i := 0) (v := ?va0) rfl (by kernel_rfl) (by kernel_rfl) (by kernel_rfl) (by kernel_rfl) (fun _ _ _ h => h) (Or.inl ⟨by rfl, ?ya0⟩) hS0 ?ra0
  case ya0 =>
    intro wq hSw
    obtain ⟨q0, q1⟩ := hSw
    go_simp
    try with_reducible rfl
  simp only [Act.put, List.setIfInBounds_toArray, List.set_cons_zero, List.set_cons_succ]
  refine wpAnyB_take (i := 3) (v := ?va3) rfl (by kernel_rfl) (by kernel_rfl) (by kernel_rfl) (by kernel_rfl) (fun _ _ _ h => h) (Or.inl ⟨by rfl, ?ya3⟩) hS0 ?ra3
  case ya3 =>
    intro wq hSw
    obtain ⟨q0, q1⟩ := hSw
    go_simp
    try with_reducible rfl
  simp only [Act.put, List.setIfInBounds_toArray, List.set_cons_zero, List.set_cons_succ]
  refine wpAnyB_ready (rs := [1]) (by kernel_rfl) (by simp) ?_
  refine (AllReadyB.cons rfl (fun K1 hK1 => ?_) AllReadyB.nil)
  go_simp
  go_at_call 86
  refine (HT.out _ HBA.out.drew).mono ?_
  rintro e w1 ⟨T, tgs, tcaps, rfl, hT, hb1, hS1⟩
  have hb1' : Below WA.heap.size WA w1 := ((Below.refl _ _).drew).trans (hb1.mono (by simp))
  have A0 := (hb1'.cell (p := ⟨w.heap.size, 0, none⟩) (by show w.heap.size < _; omega)).trans x0
  have A1 := (hb1'.cell (p := ⟨w.heap.size, 1, none⟩) (by show w.heap.size < _; omega)).trans x1
  have hz1 := hb1'.size
  go_wp2_with fail
  refine hK1.out _ _ ⟨A0, A1⟩ (fun hS1x => ?_)
  clear hK1 K1
  try simp only [Act.put, List.setIfInBounds_toArray, List.set_cons_zero, List.set_cons_succ]
  refine wpAnyB_ready (rs := [2]) (by kernel_rfl) (by simp) ?_
  refine (AllReadyB.cons rfl (fun K2 hK2 => ?_) AllReadyB.nil)
  go_simp
  go_at_call 87
  refine (products_any _).mono ?_
  rintro e w2 ⟨rfl, hb2, f0, f1⟩
  have hb2' : Below w1.heap.size w1 w2 := hb2
  have B0 := (hb2'.cell (p := ⟨w.heap.size, 0, none⟩) (by show w.heap.size < _; omega)).trans A0
  have B1 := (hb2'.cell (p := ⟨w.heap.size, 1, none⟩) (by show w.heap.size < _; omega)).trans A1
  have fk := prd_cell HKK.out HFF.out f0 f1
  clear f0 f1
  go_wp2_with fail
  refine hK2.out _ _ ⟨B0, B1⟩ (fun hS2x => ?_)
  clear hK2 K2
  try simp only [Act.put, List.setIfInBounds_toArray, List.set_cons_zero, List.set_cons_succ]
  refine wpAnyB_take (i := 4) (v := .pointer (some ⟨w1.heap.size, κ, none⟩)) rfl (by kernel_rfl) (by kernel_rfl) (by kernel_rfl) (by kernel_rfl) (fun _ _ _ h => h) (Or.inl ⟨by rfl, fun wq hSw => ?_⟩) hS2x ?_
  · go_simp
  simp only [Act.put, List.setIfInBounds_toArray, List.set_cons_zero, List.set_cons_succ]
  refine wpAnyB_ready (rs := [5, 6]) (by kernel_rfl) (by simp) ?_
  refine (AllReadyB.cons rfl (fun K3 hK3 => ?_) (AllReadyB.cons rfl (fun K4 hK4 => ?_) AllReadyB.nil))
  · go_simp
    refine hK3.out _ _ ⟨B0, B1⟩ (fun hS3x => ?_)
    clear hK3 K3
    try simp only [Act.put, List.setIfInBounds_toArray, List.set_cons_zero, List.set_cons_succ]
    refine wpAnyB_ready (rs := [6]) (by kernel_rfl) (by simp) ?_
    refine (AllReadyB.cons rfl (fun K5 hK5 => ?_) AllReadyB.nil)
    go_simp
    refine hK5.out _ _ ⟨B0, B1⟩ (fun hS5x => ?_)
    clear hK5 K5
    try simp only [Act.put, List.setIfInBounds_toArray, List.set_cons_zero, List.set_cons_succ]
    refine wpAnyB_ready (rs := [7]) (by kernel_rfl) (by simp) ?_
    refine AllReadyB.last rfl (by kernel_rfl) (by kernel_rfl) (fun K6 hK6 => ?_)
    go_simp
    refine hK6.out _ _ ?_
    clear hK6 K6
    have hB2 : Below w.heap.size w w2 := HBA.out.trans ((hb1'.trans (hb2'.mono hz1)).mono (by omega))
    have HB2 := Lib.hid hB2
    have HTB2 := Lib.hid (hS1.below hb2' (Nat.le_refl _))
    clear hB2 hb1' hb2' hb1 hb2 hS1 fk A0 A1 x0 x1 HT hk0 hk2
    go_wp2_with fail
    refine (HE.out _).mono ?_
    rintro e w3 ⟨rfl, hb3⟩
    have HB3 := Lib.hid (HB2.out.trans (hb3.mono HB2.out.size))
    have HTB := Lib.hid (HTB2.out.below hb3 (Nat.le_refl _))
    clear hb3 HE HB2 HTB2 B0 B1 hz1
    go_wp2_with fail
    have HPR := Lib.hid fun (a b : Nat) (ha : a < N) (hb : b < N) W (hW : Below w3.heap.size w3 W) => HP.out T _ tgs tcaps a b W (HTB.out.below hW (Nat.le_refl _)) ha hb
    clear HP HTB HFF HKK HNN
    have hbm : Below w3.heap.size w3 (w3.alloc (.cells (madeCells #[.slice none 0 0] N) 38)) := (Below.refl _ _).alloc (Nat.le_refl _) _
    obtain ⟨w4, hw4⟩ : ∃ w4, w4 = w3.alloc (.cells (madeCells #[.slice none 0 0] N) 38) := ⟨_, rfl⟩
    have hrest : ∀ q, 0 ≤ q → q < N → w4.cell? ⟨w3.heap.size, q, none⟩ = some (.slice none 0 0) := fun q _ hq => by
      rw [hw4, World.cell?_alloc_at _ _ _ _ rfl]; simp [madeCells, hq, Nat.mod_one]
    have hfree : ∀ o, w4.frozen? ⟨w3.heap.size, o, none⟩ = false := fun o => by rw [hw4]; simp
    have hz4 : w4.heap.size = w3.heap.size + 1 := by rw [hw4]; simp
    rw [← hw4] at hbm ⊢
    have HBM := Lib.hid hbm
    have HREST := Lib.hid hrest
    have HFREE := Lib.hid hfree
    clear hw4 hbm hrest hfree hmo
    obtain ⟨G, hG⟩ : ∃ G, G = w3.heap.size := ⟨_, rfl⟩
    have HG := Lib.hid hG
    rw [← hG] at HREST HFREE hz4 ⊢
    clear hG
    go_loopw [23] (fun i wr => ∃ (a : Nat) (gs caps : Nat → Nat), a ≤ N ∧ i = .int .i64 a ∧ Below w3.heap.size w3 wr ∧ G < wr.heap.size ∧ SSR wr G G gs caps a (rowT N R) ∧ (∀ q, a ≤ q → q < N → wr.cell? ⟨G, q, none⟩ = some (.slice none 0 0)) ∧ (∀ o, wr.frozen? ⟨G, o, none⟩ = false)) (fun i _ => N - (intOf i).toNat)
    case atStart =>
      exact ⟨0, fun _ => 0, fun _ => 0, Nat.zero_le _, rfl, HBM.out, by omega, ⟨fun k hk => by omega, fun k hk => by omega, fun k hk => by omega, fun j k _ hk => by omega, fun k hk => by omega, by omega⟩, HREST.out, HFREE.out⟩
    case round =>
      obtain ⟨a, gs, caps, ha, rfl, hB, hGl, hS, hcs, hfz⟩ := hrel
      have HS := Lib.hid hS
      have HB := Lib.hid hB
      have HC := Lib.hid hcs
      have HF := Lib.hid hfz
      clear hS hB hcs hfz
      by_cases hal : a < N
      · have g0 : (0 : Int) ≤ (a : Int) := by omega
        have g1 : (a : Int) < (N : Int) := by omega
        have HT0 := Lib.hid (TabG.begin HS.out hal HC.out HF.out)
        clear HS HC HF
        go_wp2_with fail
        go_loopw [27] (fun i wr => ∃ (b : Nat) (u : Value), b ≤ N ∧ i = .int .i64 b ∧ Below w3.heap.size w3 wr ∧ TabG wr G G N gs caps R a b u) (fun i _ => N - (intOf i).toNat)
        case atStart => exact ⟨0, _, Nat.zero_le _, rfl, HB.out, HT0.out⟩
        case round =>
          obtain ⟨b, u, hb, rfl, hB, hT⟩ := hrel
          have HB := Lib.hid hB
          have HT := Lib.hid hT
          have hz := hB.size
          have hGl := hT.ssr.lt
          clear hB hT
          by_cases hbl : b < N
          · have k0 : (0 : Int) ≤ (b : Int) := by omega
            have k1 : (b : Int) < (N : Int) := by omega
            have HCC := Lib.hid fun W (hW : Below wr.heap.size wr W) => HPR.out a b hal hbl W (HB.out.trans (hW.mono hz))
            obtain ⟨y, hy⟩ : ∃ y, y = R a b := ⟨_, rfl⟩
            rw [← hy] at HCC
            have hll : ((rowT N R a).take b).length ≤ 1100000 := by rw [List.length_take, rowT_len]; omega
            go_upto_region 10 with fail
            refine wp_region_B (S := PrdS G a u) 15 (by kernel_rfl) (by kernel_rfl) ?_
            have hS0 : PrdS G a u wr.drew := HT.out.cell
            refine wpAnyB_take (i := 0) (v := ?vva0) rfl (by kernel_rfl) (by kernel_rfl) (by kernel_rfl) (by kernel_rfl) (fun _ _ _ h => h) (Or.inl ⟨by rfl, ?yya0⟩) hS0 ?rra0
            case yya0 =>
              intro wq hSw
              unfold PrdS at hSw
              go_simp
              try with_reducible rfl
            simp only [Act.put, List.setIfInBounds_toArray, List.set_cons_zero, List.set_cons_succ]
            refine wpAnyB_take (i := 1) (v := ?vva1) rfl (by kernel_rfl) (by kernel_rfl) (by kernel_rfl) (by kernel_rfl) (fun _ _ _ h => h) (Or.inl ⟨by rfl, ?yya1⟩) hS0 ?rra1
            case yya1 =>
              intro wq hSw
              unfold PrdS at hSw
              go_simp
              try with_reducible rfl
            simp only [Act.put, List.setIfInBounds_toArray, List.set_cons_zero, List.set_cons_succ]
            refine wpAnyB_take (i := 2) (v := ?vva2) rfl (by kernel_rfl) (by kernel_rfl) (by kernel_rfl) (by kernel_rfl) (fun _ _ _ h => h) (Or.inl ⟨by rfl, ?yya2⟩) hS0 ?rra2
            case yya2 =>
              intro wq hSw
              unfold PrdS at hSw
              go_simp
              try with_reducible rfl
            simp only [Act.put, List.setIfInBounds_toArray, List.set_cons_zero, List.set_cons_succ]
            refine wpAnyB_take (i := 3) (v := ?vva3) rfl (by kernel_rfl) (by kernel_rfl) (by kernel_rfl) (by kernel_rfl) (fun _ _ _ h => h) (Or.inl ⟨by rfl, ?yya3⟩) hS0 ?rra3
            case yya3 =>
              intro wq hSw
              unfold PrdS at hSw
              go_simp
              try with_reducible rfl
            simp only [Act.put, List.setIfInBounds_toArray, List.set_cons_zero, List.set_cons_succ]
            refine wpAnyB_take (i := 4) (v := ?vva4) rfl (by kernel_rfl) (by kernel_rfl) (by kernel_rfl) (by kernel_rfl) (fun _ _ _ h => h) (Or.inl ⟨by rfl, ?yya4⟩) hS0 ?rra4
            case yya4 =>
              intro wq hSw
              unfold PrdS at hSw
              go_simp
              try with_reducible rfl
            simp only [Act.put, List.setIfInBounds_toArray, List.set_cons_zero, List.set_cons_succ]
            refine wpAnyB_take (i := 5) (v := ?vva5) rfl (by kernel_rfl) (by kernel_rfl) (by kernel_rfl) (by kernel_rfl) (fun _ _ _ h => h) (Or.inl ⟨by rfl, ?yya5⟩) hS0 ?rra5
            case yya5 =>
              intro wq hSw
              unfold PrdS at hSw
              go_simp
              try with_reducible rfl
            simp only [Act.put, List.setIfInBounds_toArray, List.set_cons_zero, List.set_cons_succ]
            refine wpAnyB_take (i := 6) (v := ?vva6) rfl (by kernel_rfl) (by kernel_rfl) (by kernel_rfl) (by kernel_rfl) (fun _ _ _ h => h) (Or.inl ⟨by rfl, ?yya6⟩) hS0 ?rra6
            case yya6 =>
              intro wq hSw
              unfold PrdS at hSw
              go_simp
              try with_reducible rfl
            simp only [Act.put, List.setIfInBounds_toArray, List.set_cons_zero, List.set_cons_succ]
            refine wpAnyB_take (i := 7) (v := ?vva7) rfl (by kernel_rfl) (by kernel_rfl) (by kernel_rfl) (by kernel_rfl) (fun _ _ _ h => h) (Or.inl ⟨by rfl, ?yya7⟩) hS0 ?rra7
            case yya7 =>
              intro wq hSw
              unfold PrdS at hSw
              go_simp
              try with_reducible rfl
            simp only [Act.put, List.setIfInBounds_toArray, List.set_cons_zero, List.set_cons_succ]
            refine wpAnyB_take (i := 8) (v := ?vva8) rfl (by kernel_rfl) (by kernel_rfl) (by kernel_rfl) (by kernel_rfl) (fun _ _ _ h => h) (Or.inl ⟨by rfl, ?yya8⟩) hS0 ?rra8
            case yya8 =>
              intro wq hSw
              unfold PrdS at hSw
              go_simp
              try with_reducible rfl
            simp only [Act.put, List.setIfInBounds_toArray, List.set_cons_zero, List.set_cons_succ]
            refine wpAnyB_take (i := 9) (v := ?vva9) rfl (by kernel_rfl) (by kernel_rfl) (by kernel_rfl) (by kernel_rfl) (fun _ _ _ h => h) (Or.inl ⟨by rfl, ?yya9⟩) hS0 ?rra9
            case yya9 =>
              intro wq hSw
              unfold PrdS at hSw
              go_simp
              try with_reducible rfl
            simp only [Act.put, List.setIfInBounds_toArray, List.set_cons_zero, List.set_cons_succ]
            obtain ⟨L, hL⟩ : ∃ L, L = (rowT N R a).take b := ⟨_, rfl⟩
            have HL := Lib.hid hL
            rw [← hL] at hll
            have HO := Lib.hid (show OwnJ wr G u L by rw [hL]; exact HT.out.own)
            clear hL
            have HYY := Lib.hid hy
            clear hy
            rcases HF2.out with rfl | rfl
            all_goals
              refine wpAnyB_ready (rs := [10]) (by kernel_rfl) (by simp) ?_
              refine (AllReadyB.cons rfl (fun K1 hK1 => ?_) AllReadyB.nil)
              go_simp
              refine (HCC.out _ ((Below.refl _ _).drew)).mono ?_
              rintro e w6 ⟨rfl, hw6⟩
              go_wp2_with fail
              refine hK1.out _ _ (by rw [← hw6]; exact hS0) (fun hS1 => ?_)
              clear hK1 K1
              subst hw6
              try simp only [Act.put, List.setIfInBounds_toArray, List.set_cons_zero, List.set_cons_succ]
              refine wpAnyB_ready (rs := [11]) (by kernel_rfl) (by simp) ?_
              refine (AllReadyB.cons rfl (fun K2 hK2 => ?_) AllReadyB.nil)
              go_simp
              have hb6 : Below wr.heap.size wr (wr.alloc (.cells #[.int .i64 y] 2)).drew := ((Below.refl _ _).alloc (Nat.le_refl _) _).drew
              obtain ⟨W6, hW6⟩ : ∃ W6, W6 = (wr.alloc (.cells #[.int .i64 y] 2)).drew := ⟨_, rfl⟩
              have c6 : W6.cell? ⟨wr.heap.size, 0, none⟩ = some (.int .i64 y) := by rw [hW6]; simp [go_sem]
              have hz6 : wr.heap.size ≤ W6.heap.size := by rw [hW6]; simp
              rw [← hW6] at hb6 ⊢
              clear hW6
              have HT6 := Lib.hid (HT.out.below hb6)
              have HB6 := Lib.hid (HB.out.trans (hb6.mono hz))
              have hO6 := HO.out.below hb6 (Nat.le_refl _)
              clear hb6
              refine hK2.out _ _ HT6.out.cell (fun hS2 => ?_)
              clear hK2 K2
              try simp only [Act.put, List.setIfInBounds_toArray, List.set_cons_zero, List.set_cons_succ]
              refine wpAnyB_ready (rs := [12]) (by kernel_rfl) (by simp) ?_
              refine (AllReadyB.cons rfl (fun K3 hK3 => ?_) AllReadyB.nil)
              refine step_append_intG rfl (.tmp 35) (.tmp 41) rfl G u L (by simp [Act.eval]) hO6 wr.heap.size 1 y (by simp [Act.eval]) c6 hll (by omega) ?_
              intro g cap w7 ho7 hg7 hG7
              have c7 : PrdS G a u w7 := hg7.cell HT6.out.cell (fun e => HT6.out.ne e.symm)
              refine hK3.out _ _ c7 (fun hS3 => ?_)
              clear hK3 K3
              try simp only [Act.put, List.setIfInBounds_toArray, List.set_cons_zero, List.set_cons_succ]
              have hstep := TabG.step HT6.out hbl hg7 (g := g) (cap := cap) (by rw [← HL.out, ← HYY.out]; exact ho7) (by rcases hG7 with h | h; exact .inl h; exact .inr (by omega))
              rw [← HL.out] at hstep
              have HST := Lib.hid hstep
              have hb7 : Below w3.heap.size w3 (w7.setCell ⟨G, a, none⟩ (.slice (some ⟨g, 0, none⟩) (L.length + 1) cap)) := (HB6.out.grown hg7 HB6.out.size (fun r e => by have := (HT6.out.blk r e).1; have := HG.out; omega)).setCell (p := ⟨G, a, none⟩) (by have := HG.out; show w3.heap.size ≤ G; omega) _
              have HB7 := Lib.hid hb7
              have hfz := HST.out.free a
              have hcc := HST.out.cell
              rw [World.frozen?_setCell] at hfz
              clear hstep hb7 ho7 hg7 hG7 hcc hO6 c6
              refine wpAnyB_take (i := 13) (v := .pointer (some ⟨G, a, none⟩)) rfl (by kernel_rfl) (by kernel_rfl) (by kernel_rfl) (by kernel_rfl) (fun _ _ _ h => h) (Or.inl ⟨by rfl, fun wq hSw => ?_⟩) hS3 ?_
              · unfold PrdS at hSw
                go_simp
              simp only [Act.put, List.setIfInBounds_toArray, List.set_cons_zero, List.set_cons_succ]
              refine wpAnyB_ready (rs := [14]) (by kernel_rfl) (by simp) ?_
              refine AllReadyB.last rfl (by kernel_rfl) (by kernel_rfl) (fun K8 hK8 => ?_)
              unfold PrdS at c7
              go_simp
              refine hK8.out _ _ ?_
              clear hK8 K8
              go_wp2_with fail
              go_roundw
              case rel => exact ⟨b + 1, _, by omega, by go_num, HB7.out, HST.out⟩
              case measure => simp [intOf]; omega
          · have e : b = N := by omega
            rw [e] at HT
            obtain ⟨g, cap, hfull⟩ := HT.out.full (by omega) (by omega)
            have HFU := Lib.hid hfull
            have HRE := Lib.hid HT.out.rest
            have HFR := Lib.hid HT.out.free
            clear hfull HT e
            go_wp2_with fail
            go_roundw
            case rel => exact ⟨a + 1, _, _, by omega, by go_num, HB.out, hGl, HFU.out, fun q h1 h2 => HRE.out q (by omega) h2, HFR.out⟩
            case measure => simp [intOf]; omega
      · have e : a = N := by omega
        subst e
        have hlow : w.heap.size ≤ G := by have := HB3.out.size; have := HG.out; omega
        go_wp2
        go_ret
        exact ⟨G, gs, caps, rfl, hlow, HB3.out.trans (HB.out.mono HB3.out.size), ⟨HS.out.cell, HS.out.row, HS.out.ne, HS.out.inc, fun k hk => by have := HS.out.low k hk; omega, HS.out.lt⟩⟩
  · go_simp
    refine hK4.out _ _ ⟨B0, B1⟩ (fun hS3x => ?_)
    clear hK4 K4
    try simp only [Act.put, List.setIfInBounds_toArray, List.set_cons_zero, List.set_cons_succ]
    refine wpAnyB_ready (rs := [5]) (by kernel_rfl) (by simp) ?_
    refine (AllReadyB.cons rfl (fun K5 hK5 => ?_) AllReadyB.nil)
    go_simp
    refine hK5.out _ _ ⟨B0, B1⟩ (fun hS5x => ?_)
    clear hK5 K5
    try simp only [Act.put, List.setIfInBounds_toArray, List.set_cons_zero, List.set_cons_succ]
    refine wpAnyB_ready (rs := [7]) (by kernel_rfl) (by simp) ?_
    refine AllReadyB.last rfl (by kernel_rfl) (by kernel_rfl) (fun K6 hK6 => ?_)
    go_simp
    refine hK6.out _ _ ?_
    clear hK6 K6
    have hB2 : Below w.heap.size w w2 := HBA.out.trans ((hb1'.trans (hb2'.mono hz1)).mono (by omega))
    have HB2 := Lib.hid hB2
    have HTB2 := Lib.hid (hS1.below hb2' (Nat.le_refl _))
    clear hB2 hb1' hb2' hb1 hb2 hS1 fk A0 A1 x0 x1 HT hk0 hk2
    go_wp2_with fail
    refine (HE.out _).mono ?_
    rintro e w3 ⟨rfl, hb3⟩
    have HB3 := Lib.hid (HB2.out.trans (hb3.mono HB2.out.size))
    have HTB := Lib.hid (HTB2.out.below hb3 (Nat.le_refl _))
    clear hb3 HE HB2 HTB2 B0 B1 hz1
    go_wp2_with fail
    have HPR := Lib.hid fun (a b : Nat) (ha : a < N) (hb : b < N) W (hW : Below w3.heap.size w3 W) => HP.out T _ tgs tcaps a b W (HTB.out.below hW (Nat.le_refl _)) ha hb
    clear HP HTB HFF HKK HNN
    have hbm : Below w3.heap.size w3 (w3.alloc (.cells (madeCells #[.slice none 0 0] N) 38)) := (Below.refl _ _).alloc (Nat.le_refl _) _
    obtain ⟨w4, hw4⟩ : ∃ w4, w4 = w3.alloc (.cells (madeCells #[.slice none 0 0] N) 38) := ⟨_, rfl⟩
    have hrest : ∀ q, 0 ≤ q → q < N → w4.cell? ⟨w3.heap.size, q, none⟩ = some (.slice none 0 0) := fun q _ hq => by
      rw [hw4, World.cell?_alloc_at _ _ _ _ rfl]; simp [madeCells, hq, Nat.mod_one]
    have hfree : ∀ o, w4.frozen? ⟨w3.heap.size, o, none⟩ = false := fun o => by rw [hw4]; simp
    have hz4 : w4.heap.size = w3.heap.size + 1 := by rw [hw4]; simp
    rw [← hw4] at hbm ⊢
    have HBM := Lib.hid hbm
    have HREST := Lib.hid hrest
    have HFREE := Lib.hid hfree
    clear hw4 hbm hrest hfree hmo
    obtain ⟨G, hG⟩ : ∃ G, G = w3.heap.size := ⟨_, rfl⟩
    have HG := Lib.hid hG
    rw [← hG] at HREST HFREE hz4 ⊢
    clear hG
    go_loopw [23] (fun i wr => ∃ (a : Nat) (gs caps : Nat → Nat), a ≤ N ∧ i = .int .i64 a ∧ Below w3.heap.size w3 wr ∧ G < wr.heap.size ∧ SSR wr G G gs caps a (rowT N R) ∧ (∀ q, a ≤ q → q < N → wr.cell? ⟨G, q, none⟩ = some (.slice none 0 0)) ∧ (∀ o, wr.frozen? ⟨G, o, none⟩ = false)) (fun i _ => N - (intOf i).toNat)
    case atStart =>
      exact ⟨0, fun _ => 0, fun _ => 0, Nat.zero_le _, rfl, HBM.out, by omega, ⟨fun k hk => by omega, fun k hk => by omega, fun k hk => by omega, fun j k _ hk => by omega, fun k hk => by omega, by omega⟩, HREST.out, HFREE.out⟩
    case round =>
      obtain ⟨a, gs, caps, ha, rfl, hB, hGl, hS, hcs, hfz⟩ := hrel
      have HS := Lib.hid hS
      have HB := Lib.hid hB
      have HC := Lib.hid hcs
      have HF := Lib.hid hfz
      clear hS hB hcs hfz
      by_cases hal : a < N
      · have g0 : (0 : Int) ≤ (a : Int) := by omega
        have g1 : (a : Int) < (N : Int) := by omega
        have HT0 := Lib.hid (TabG.begin HS.out hal HC.out HF.out)
        clear HS HC HF
        go_wp2_with fail
        go_loopw [27] (fun i wr => ∃ (b : Nat) (u : Value), b ≤ N ∧ i = .int .i64 b ∧ Below w3.heap.size w3 wr ∧ TabG wr G G N gs caps R a b u) (fun i _ => N - (intOf i).toNat)
        case atStart => exact ⟨0, _, Nat.zero_le _, rfl, HB.out, HT0.out⟩
        case round =>
          obtain ⟨b, u, hb, rfl, hB, hT⟩ := hrel
          have HB := Lib.hid hB
          have HT := Lib.hid hT
          have hz := hB.size
          have hGl := hT.ssr.lt
          clear hB hT
          by_cases hbl : b < N
          · have k0 : (0 : Int) ≤ (b : Int) := by omega
            have k1 : (b : Int) < (N : Int) := by omega
            have HCC := Lib.hid fun W (hW : Below wr.heap.size wr W) => HPR.out a b hal hbl W (HB.out.trans (hW.mono hz))
            obtain ⟨y, hy⟩ : ∃ y, y = R a b := ⟨_, rfl⟩
            rw [← hy] at HCC
            have hll : ((rowT N R a).take b).length ≤ 1100000 := by rw [List.length_take, rowT_len]; omega
            go_upto_region 10 with fail
            refine wp_region_B (S := PrdS G a u) 15 (by kernel_rfl) (by kernel_rfl) ?_
            have hS0 : PrdS G a u wr.drew := HT.out.cell
            refine wpAnyB_take (i := 0) (v := ?vvb0) rfl (by kernel_rfl) (by kernel_rfl) (by kernel_rfl) (by kernel_rfl) (fun _ _ _ h => h) (Or.inl ⟨by rfl, ?yyb0⟩) hS0 ?rrb0
            case yyb0 =>
              intro wq hSw
              unfold PrdS at hSw
              go_simp
              try with_reducible rfl
            simp only [Act.put, List.setIfInBounds_toArray, List.set_cons_zero, List.set_cons_succ]
            refine wpAnyB_take (i := 1) (v := ?vvb1) rfl (by kernel_rfl) (by kernel_rfl) (by kernel_rfl) (by kernel_rfl) (fun _ _ _ h => h) (Or.inl ⟨by rfl, ?yyb1⟩) hS0 ?rrb1
            case yyb1 =>
              intro wq hSw
              unfold PrdS at hSw
              go_simp
              try with_reducible rfl
            simp only [Act.put, List.setIfInBounds_toArray, List.set_cons_zero, List.set_cons_succ]
            refine wpAnyB_take (i := 2) (v := ?vvb2) rfl (by kernel_rfl) (by kernel_rfl) (by kernel_rfl) (by kernel_rfl) (fun _ _ _ h => h) (Or.inl ⟨by rfl, ?yyb2⟩) hS0 ?rrb2
            case yyb2 =>
              intro wq hSw
              unfold PrdS at hSw
              go_simp
              try with_reducible rfl
            simp only [Act.put, List.setIfInBounds_toArray, List.set_cons_zero, List.set_cons_succ]
            refine wpAnyB_take (i := 3) (v := ?vvb3) rfl (by kernel_rfl) (by kernel_rfl) (by kernel_rfl) (by kernel_rfl) (fun _ _ _ h => h) (Or.inl ⟨by rfl, ?yyb3⟩) hS0 ?rrb3
            case yyb3 =>
              intro wq hSw
              unfold PrdS at hSw
              go_simp
              try with_reducible rfl
            simp only [Act.put, List.setIfInBounds_toArray, List.set_cons_zero, List.set_cons_succ]
            refine wpAnyB_take (i := 4) (v := ?vvb4) rfl (by kernel_rfl) (by kernel_rfl) (by kernel_rfl) (by kernel_rfl) (fun _ _ _ h => h) (Or.inl ⟨by rfl, ?yyb4⟩) hS0 ?rrb4
            case yyb4 =>
              intro wq hSw
              unfold PrdS at hSw
              go_simp
              try with_reducible rfl
            simp only [Act.put, List.setIfInBounds_toArray, List.set_cons_zero, List.set_cons_succ]
            refine wpAnyB_take (i := 5) (v := ?vvb5) rfl (by kernel_rfl) (by kernel_rfl) (by kernel_rfl) (by kernel_rfl) (fun _ _ _ h => h) (Or.inl ⟨by rfl, ?yyb5⟩) hS0 ?rrb5
            case yyb5 =>
              intro wq hSw
              unfold PrdS at hSw
              go_simp
              try with_reducible rfl
            simp only [Act.put, List.setIfInBounds_toArray, List.set_cons_zero, List.set_cons_succ]
            refine wpAnyB_take (i := 6) (v := ?vvb6) rfl (by kernel_rfl) (by kernel_rfl) (by kernel_rfl) (by kernel_rfl) (fun _ _ _ h => h) (Or.inl ⟨by rfl, ?yyb6⟩) hS0 ?rrb6
            case yyb6 =>
              intro wq hSw
              unfold PrdS at hSw
              go_simp
              try with_reducible rfl
            simp only [Act.put, List.setIfInBounds_toArray, List.set_cons_zero, List.set_cons_succ]
            refine wpAnyB_take (i := 7) (v := ?vvb7) rfl (by kernel_rfl) (by kernel_rfl) (by kernel_rfl) (by kernel_rfl) (fun _ _ _ h => h) (Or.inl ⟨by rfl, ?yyb7⟩) hS0 ?rrb7
            case yyb7 =>
              intro wq hSw
              unfold PrdS at hSw
              go_simp
              try with_reducible rfl
            simp only [Act.put, List.setIfInBounds_toArray, List.set_cons_zero, List.set_cons_succ]
            refine wpAnyB_take (i := 8) (v := ?vvb8) rfl (by kernel_rfl) (by kernel_rfl) (by kernel_rfl) (by kernel_rfl) (fun _ _ _ h => h) (Or.inl ⟨by rfl, ?yyb8⟩) hS0 ?rrb8
            case yyb8 =>
              intro wq hSw
              unfold PrdS at hSw
              go_simp
              try with_reducible rfl
            simp only [Act.put, List.setIfInBounds_toArray, List.set_cons_zero, List.set_cons_succ]
            refine wpAnyB_take (i := 9) (v := ?vvb9) rfl (by kernel_rfl) (by kernel_rfl) (by kernel_rfl) (by kernel_rfl) (fun _ _ _ h => h) (Or.inl ⟨by rfl, ?yyb9⟩) hS0 ?rrb9
            case yyb9 =>
              intro wq hSw
              unfold PrdS at hSw
              go_simp
              try with_reducible rfl
            simp only [Act.put, List.setIfInBounds_toArray, List.set_cons_zero, List.set_cons_succ]
            obtain ⟨L, hL⟩ : ∃ L, L = (rowT N R a).take b := ⟨_, rfl⟩
            have HL := Lib.hid hL
            rw [← hL] at hll
            have HO := Lib.hid (show OwnJ wr G u L by rw [hL]; exact HT.out.own)
            clear hL
            have HYY := Lib.hid hy
            clear hy
            rcases HF2.out with rfl | rfl
            all_goals
              refine wpAnyB_ready (rs := [10]) (by kernel_rfl) (by simp) ?_
              refine (AllReadyB.cons rfl (fun K1 hK1 => ?_) AllReadyB.nil)
              go_simp
              refine (HCC.out _ ((Below.refl _ _).drew)).mono ?_
              rintro e w6 ⟨rfl, hw6⟩
              go_wp2_with fail
              refine hK1.out _ _ (by rw [← hw6]; exact hS0) (fun hS1 => ?_)
              clear hK1 K1
              subst hw6
              try simp only [Act.put, List.setIfInBounds_toArray, List.set_cons_zero, List.set_cons_succ]
              refine wpAnyB_ready (rs := [11]) (by kernel_rfl) (by simp) ?_
              refine (AllReadyB.cons rfl (fun K2 hK2 => ?_) AllReadyB.nil)
              go_simp
              have hb6 : Below wr.heap.size wr (wr.alloc (.cells #[.int .i64 y] 2)).drew := ((Below.refl _ _).alloc (Nat.le_refl _) _).drew
              obtain ⟨W6, hW6⟩ : ∃ W6, W6 = (wr.alloc (.cells #[.int .i64 y] 2)).drew := ⟨_, rfl⟩
              have c6 : W6.cell? ⟨wr.heap.size, 0, none⟩ = some (.int .i64 y) := by rw [hW6]; simp [go_sem]
              have hz6 : wr.heap.size ≤ W6.heap.size := by rw [hW6]; simp
              rw [← hW6] at hb6 ⊢
              clear hW6
              have HT6 := Lib.hid (HT.out.below hb6)
              have HB6 := Lib.hid (HB.out.trans (hb6.mono hz))
              have hO6 := HO.out.below hb6 (Nat.le_refl _)
              clear hb6
              refine hK2.out _ _ HT6.out.cell (fun hS2 => ?_)
              clear hK2 K2
              try simp only [Act.put, List.setIfInBounds_toArray, List.set_cons_zero, List.set_cons_succ]
              refine wpAnyB_ready (rs := [12]) (by kernel_rfl) (by simp) ?_
              refine (AllReadyB.cons rfl (fun K3 hK3 => ?_) AllReadyB.nil)
              refine step_append_intG rfl (.tmp 35) (.tmp 41) rfl G u L (by simp [Act.eval]) hO6 wr.heap.size 1 y (by simp [Act.eval]) c6 hll (by omega) ?_
              intro g cap w7 ho7 hg7 hG7
              have c7 : PrdS G a u w7 := hg7.cell HT6.out.cell (fun e => HT6.out.ne e.symm)
              refine hK3.out _ _ c7 (fun hS3 => ?_)
              clear hK3 K3
              try simp only [Act.put, List.setIfInBounds_toArray, List.set_cons_zero, List.set_cons_succ]
              have hstep := TabG.step HT6.out hbl hg7 (g := g) (cap := cap) (by rw [← HL.out, ← HYY.out]; exact ho7) (by rcases hG7 with h | h; exact .inl h; exact .inr (by omega))
              rw [← HL.out] at hstep
              have HST := Lib.hid hstep
              have hb7 : Below w3.heap.size w3 (w7.setCell ⟨G, a, none⟩ (.slice (some ⟨g, 0, none⟩) (L.length + 1) cap)) := (HB6.out.grown hg7 HB6.out.size (fun r e => by have := (HT6.out.blk r e).1; have := HG.out; omega)).setCell (p := ⟨G, a, none⟩) (by have := HG.out; show w3.heap.size ≤ G; omega) _
              have HB7 := Lib.hid hb7
              have hfz := HST.out.free a
              have hcc := HST.out.cell
              rw [World.frozen?_setCell] at hfz
              clear hstep hb7 ho7 hg7 hG7 hcc hO6 c6
              refine wpAnyB_take (i := 13) (v := .pointer (some ⟨G, a, none⟩)) rfl (by kernel_rfl) (by kernel_rfl) (by kernel_rfl) (by kernel_rfl) (fun _ _ _ h => h) (Or.inl ⟨by rfl, fun wq hSw => ?_⟩) hS3 ?_
              · unfold PrdS at hSw
                go_simp
              simp only [Act.put, List.setIfInBounds_toArray, List.set_cons_zero, List.set_cons_succ]
              refine wpAnyB_ready (rs := [14]) (by kernel_rfl) (by simp) ?_
              refine AllReadyB.last rfl (by kernel_rfl) (by kernel_rfl) (fun K8 hK8 => ?_)
              unfold PrdS at c7
              go_simp
              refine hK8.out _ _ ?_
              clear hK8 K8
              go_wp2_with fail
              go_roundw
              case rel => exact ⟨b + 1, _, by omega, by go_num, HB7.out, HST.out⟩
              case measure => simp [intOf]; omega
          · have e : b = N := by omega
            rw [e] at HT
            obtain ⟨g, cap, hfull⟩ := HT.out.full (by omega) (by omega)
            have HFU := Lib.hid hfull
            have HRE := Lib.hid HT.out.rest
            have HFR := Lib.hid HT.out.free
            clear hfull HT e
            go_wp2_with fail
            go_roundw
            case rel => exact ⟨a + 1, _, _, by omega, by go_num, HB.out, hGl, HFU.out, fun q h1 h2 => HRE.out q (by omega) h2, HFR.out⟩
            case measure => simp [intOf]; omega
      · have e : a = N := by omega
        subst e
        have hlow : w.heap.size ≤ G := by have := HB3.out.size; have := HG.out; omega
        go_wp2
        go_ret
        exact ⟨G, gs, caps, rfl, hlow, HB3.out.trans (HB.out.mono HB3.out.size), ⟨HS.out.cell, HS.out.row, HS.out.ne, HS.out.inc, fun k hk => by have := HS.out.low k hk; omega, HS.out.lt⟩⟩
end Go.Proofs.Ytahgialnhomefaa


/- Trades in a law's memory. The model's l04Same, l04Member, l04Is, IsTrade. Rows of blocks that are written and sorted in place. append of many blocks to a list of the call's own. The model's l04Less. maps.Equal of two sets of pairs. -/
import Derived.Test.YtacfelgilphppaaJ6
import Derived.Shelf.SlSortCmp.NoneTotal
import Derived.Deep.RegionLaw
import Derived.Deep.AppendLies
import Derived.Lib.SlMapEqual
import Derived.Maps.RangeWalk
import Derived.Maps.OwnSet
import Derived.Deep.LoopGhost
namespace Go.Proofs.Ytacfelgilphppaa
open Go.RowKit Go.Maps
/-- What is known of a trade's two lists that came in. -/
def InT (w : World) (so : Value) (bo : List Blk) (si : Value) (bi : List Blk) : Prop := InB w so bo ∧ InB w si bi
/-- Two slices of just these blocks. -/
def TB (w : World) (so : Value) (bo : List Blk) (si : Value) (bi : List Blk) : Prop := SB w so bo ∧ SB w si bi
theorem InT.sb {w : World} {so si : Value} {bo bi : List Blk} (h : InT w so bo si bi) (hl : bo.length + bi.length ≤ 1048576) : TB w so bo si bi := ⟨h.1.sb (by omega), h.2.sb (by omega)⟩
theorem TB.below {w w' : World} {so si : Value} {bo bi : List Blk} (h : TB w so bo si bi) {B : Nat} (hb : Below B w w') (hB : w.heap.size ≤ B) : TB w' so bo si bi := ⟨h.1.below hb hB, h.2.below hb hB⟩
/-- Two new lists of the call's own, apart from each other. -/
def OwnT (w : World) (lo : Nat) (so : Value) (bo : List Blk) (si : Value) (bi : List Blk) : Prop :=
  ∃ g cap g' cap', so = .slice (some ⟨g, 0, none⟩) bo.length cap ∧ si = .slice (some ⟨g', 0, none⟩) bi.length cap' ∧ g < g' ∧ OwnB w lo so bo ∧ OwnB w lo si bi
theorem OwnT.sb {w : World} {lo : Nat} {so si : Value} {bo bi : List Blk} (h : OwnT w lo so bo si bi) (h1 : ∀ x ∈ bo, WFB x) (h2 : ∀ x ∈ bi, WFB x) (hl : bo.length + bi.length ≤ 1100000) : TB w so bo si bi := by
  obtain ⟨_, _, _, _, _, _, _, o1, o2⟩ := h
  exact ⟨o1.sb h1 (by omega), o2.sb h2 (by omega)⟩
/-- A trade in memory of its own. -/
def ResT (w : World) (lo hi : Nat) (so : Value) (bo : List Blk) (si : Value) (bi : List Blk) : Prop :=
  ∃ a b c d, lo ≤ a ∧ b ≤ hi ∧ lo ≤ c ∧ d ≤ hi ∧ (b ≤ c ∨ d ≤ a) ∧ ResR w a b so bo ∧ ResR w c d si bi
section
variable {w W W' : World} {L : List Item} {lo hi : Nat} {so si : Value} {bo bi : List Blk}
theorem OwnB.at_ {g cap : Nat} {bs : List Blk} (h : OwnB w lo (.slice (some ⟨g, 0, none⟩) bs.length cap) bs) : lo ≤ g ∧ g < w.heap.size ∧ OwnAt w g bs := by
  obtain ⟨g', cap', e, h1, h2, h3, h4, _⟩ := h
  simp at e
  obtain ⟨rfl, rfl⟩ := e
  exact ⟨h1, h2, h2, h3, h4⟩
theorem OwnT.res (h : OwnT w lo so bo si bi) : ResT w lo w.heap.size so bo si bi := by
  obtain ⟨g, cap, g', cap', rfl, rfl, hlt, o1, o2⟩ := h
  obtain ⟨p1, p2, p3⟩ := o1.at_
  obtain ⟨q1, q2, q3⟩ := o2.at_
  exact ⟨g, g + 1, g', g' + 1, p1, by omega, q1, by omega, .inl (by omega), .inr ⟨g, cap, rfl, by omega, by omega, p3⟩, .inr ⟨g', cap', rfl, by omega, by omega, q3⟩⟩
theorem ResT.tb (h : ResT w lo hi so bo si bi) (h1 : ∀ x ∈ bo, WFB x) (h2 : ∀ x ∈ bi, WFB x) (hl : bo.length + bi.length ≤ 1100000) : TB w so bo si bi := by
  obtain ⟨_, _, _, _, _, _, _, _, _, r1, r2⟩ := h
  exact ⟨r1.sb h1 (by omega), r2.sb h2 (by omega)⟩
theorem ResT.slice (h : ResT w lo hi so bo si bi) : (∃ a c, so = .slice a bo.length c) ∧ ∃ a c, si = .slice a bi.length c := by
  obtain ⟨_, _, _, _, _, _, _, _, _, r1, r2⟩ := h
  exact ⟨r1.slice, r2.slice⟩
theorem ResT.of {a b c d : Nat} (h1 : ResR w a b so bo) (h2 : ResR w c d si bi) (ha : lo ≤ a) (hb : b ≤ hi) (hc : lo ≤ c) (hd : d ≤ hi) (hx : b ≤ c ∨ d ≤ a) : ResT w lo hi so bo si bi := ⟨a, b, c, d, ha, hb, hc, hd, hx, h1, h2⟩
theorem ResT.wide {lo' hi' : Nat} (h : ResT w lo hi so bo si bi) (h1 : lo' ≤ lo) (h2 : hi ≤ hi') : ResT w lo' hi' so bo si bi := by
  obtain ⟨a, b, c, d, ha, hb, hc, hd, hx, r1, r2⟩ := h
  exact ⟨a, b, c, d, by omega, by omega, by omega, by omega, hx, r1, r2⟩
theorem ResT.below {B : Nat} (h : ResT W lo hi so bo si bi) (hb : Below B W W') (hB : W.heap.size ≤ B) : ResT W' lo hi so bo si bi := by
  obtain ⟨a, b, c, d, ha, hb1, hc, hd, hx, r1, r2⟩ := h
  exact ⟨a, b, c, d, ha, hb1, hc, hd, hx, r1.below hb hB, r2.below hb hB⟩
theorem ResT.nil (w : World) (lo : Nat) : ResT w lo w.heap.size (.slice none 0 0) [] (.slice none 0 0) [] := ⟨lo, 0, lo, 0, by omega, by omega, by omega, by omega, .inl (by omega), .inl ⟨rfl, _, _, rfl⟩, .inl ⟨rfl, _, _, rfl⟩⟩
theorem ResR.stays {bs : List Blk} {s : Value} {a b : Nat} (h : ResR W a b s bs) (hs : Stays lo hi W W') (h1 : lo ≤ a) (h2 : b ≤ hi) : ResR W' a b s bs := by
  rcases h with h | ⟨g, cap, rfl, p, q, ho⟩
  · exact .inl h
  · exact .inr ⟨g, cap, rfl, p, q, ho.stay (hs.2 g (by omega) (by omega)) hs.1⟩
def iTrd (lo hi : Nat) (so : Value) (bo : List Blk) (si : Value) (bi : List Blk) : Item := ⟨lo, hi, fun W => ResT W lo hi so bo si bi⟩
theorem iTrd_ok (lo hi : Nat) (so : Value) (bo : List Blk) (si : Value) (bi : List Blk) : (iTrd lo hi so bo si bi).Ok := fun W W' _ hs h => by
  obtain ⟨a, b, c, d, ha, hb, hc, hd, hx, r1, r2⟩ := h
  exact ⟨a, b, c, d, ha, hb, hc, hd, hx, r1.stays hs ha hb, r2.stays hs hc hd⟩
/-- A variable that holds a trade. -/
structure VarT (W : World) (X : Nat) (v : Int) (s t : Value) : Prop where
  lt : X < W.heap.size
  c0 : W.cell? ⟨X, 0, none⟩ = some (.int .i64 v)
  c1 : W.cell? ⟨X, 1, none⟩ = some s
  c2 : W.cell? ⟨X, 2, none⟩ = some t
theorem VarT.new (W : World) (v : Int) (s t : Value) (T : TypeId) : VarT (W.alloc (.cells #[.int .i64 v, s, t] T)) W.heap.size v s t := ⟨by simp, by simp, by simp, by simp⟩
def iVarT (X : Nat) (v : Int) (s t : Value) : Item := ⟨X, X + 1, fun W => VarT W X v s t⟩
theorem iVarT_ok (X : Nat) (v : Int) (s t : Value) : (iVarT X v s t).Ok := fun W W' _ hs h => by
  have hb := hs.2 X (Nat.le_refl _) (Nat.lt_succ_self _)
  exact ⟨Nat.lt_of_lt_of_le h.lt hs.1, (World.cell?_of_block (w := W) (a := ⟨X, 0, none⟩) hb).trans h.c0, (World.cell?_of_block (w := W) (a := ⟨X, 1, none⟩) hb).trans h.c1, (World.cell?_of_block (w := W) (a := ⟨X, 2, none⟩) hb).trans h.c2⟩
theorem Mem.vrt (h : Mem w L W) (k : Nat) {X : Nat} {v : Int} {s t : Value} (e : L[k]? = some (iVarT X v s t)) : VarT W X v s t := h.at k e
theorem Mem.trd (h : Mem w L W) (k : Nat) (e : L[k]? = some (iTrd lo hi so bo si bi)) : ResT W lo hi so bo si bi := h.at k e
theorem Mem.pushVarT (h : Mem w L W) (v : Int) (s t : Value) (T : TypeId) : Mem w (iVarT W.heap.size v s t :: L) (W.alloc (.cells #[.int .i64 v, s, t] T)) :=
  h.push (gb_alloc1 W _) (iVarT W.heap.size v s t) (Nat.le_refl _) (Nat.le_succ _) (by simp [iVarT]) (iVarT_ok _ _ _ _) (VarT.new W v s t T)
theorem Mem.pushT (h : Mem w L W) (hb : Below W.heap.size W W') (hr : ResT W' W.heap.size W'.heap.size so bo si bi) : Mem w (iTrd W.heap.size W'.heap.size so bo si bi :: L) W' :=
  h.push (gb_below hb) (iTrd W.heap.size W'.heap.size so bo si bi) (Nat.le_refl _) hb.size (Nat.le_refl _) (iTrd_ok _ _ _ _ _ _) hr
theorem Mem.markT (h : Mem w L W) (k : Nat) (e : L[k]? = some (iTrd lo hi so bo si bi)) (hw : OnlyIn lo hi W W') {bo' bi' : List Blk} (hP : ResT W' lo hi so bo' si bi') : Mem w (L.set k (iTrd lo hi so bo' si bi')) W' :=
  h.mark k e hw (iTrd_ok lo hi so bo' si bi') hP
end
end Go.Proofs.Ytacfelgilphppaa

namespace Go.Proofs.Ytacfelgilphppaa
open Go.RowKit Go.Maps
theorem num_inj {v u : Int} {bs cs : List Blk} (hv : v ≤ 15) (hu : u ≤ 15) (h1 : ∀ x ∈ bs, goodB v x = true) (h2 : ∀ x ∈ cs, goodB u x = true) : samePr bs cs = true ↔ ∀ i, i < 256 → inNum (prs bs) i = inNum (prs cs) i := by
  have key : ∀ {v : Int} {bs : List Blk}, v ≤ 15 → (∀ x ∈ bs, goodB v x = true) → ∀ p ∈ prs bs, 0 ≤ p.1 ∧ p.1 ≤ 14 ∧ 0 ≤ p.2 ∧ p.2 ≤ 14 := by
    intro v bs hv h p hp
    simp only [prs, List.mem_flatMap] at hp
    obtain ⟨x, hx, hp⟩ := hp
    have hg := goodB_iff.1 (h x hx)
    simp only [pairsL, List.mem_cons, List.not_mem_nil, or_false] at hp
    rcases hp with rfl | rfl | rfl <;> simp only <;> omega
  have inj : ∀ {p q : Int × Int}, (0 ≤ p.1 ∧ p.1 ≤ 14 ∧ 0 ≤ p.2 ∧ p.2 ≤ 14) → (0 ≤ q.1 ∧ q.1 ≤ 14 ∧ 0 ≤ q.2 ∧ q.2 ≤ 14) → numP p = numP q → p = q := by
    rintro ⟨a, b⟩ ⟨c, d⟩ hp hq e
    simp only [numP] at *
    have h1 : a = c := by omega
    have h2 : b = d := by omega
    rw [h1, h2]
  rw [samePr_iff]
  constructor
  · intro h i _
    unfold inNum
    rw [decide_eq_decide, List.mem_map, List.mem_map]
    exact ⟨fun ⟨p, hp, e⟩ => ⟨p, (h p).1 hp, e⟩, fun ⟨p, hp, e⟩ => ⟨p, (h p).2 hp, e⟩⟩
  · intro h p
    have tow : ∀ {v u : Int} {bs cs : List Blk}, v ≤ 15 → u ≤ 15 → (∀ x ∈ bs, goodB v x = true) → (∀ x ∈ cs, goodB u x = true) → (∀ i, i < 256 → inNum (prs bs) i = inNum (prs cs) i) → p ∈ prs bs → p ∈ prs cs := by
      intro v u bs cs hv hu h1 h2 h hp
      have b := key hv h1 p hp
      have hi := h (numP p).toNat (by simp only [numP]; omega)
      have e : ((numP p).toNat : Int) = numP p := Int.toNat_of_nonneg (by simp only [numP]; omega)
      unfold inNum at hi
      rw [e, decide_eq_true (List.mem_map.2 ⟨p, hp, rfl⟩)] at hi
      obtain ⟨q, hq, eq⟩ := List.mem_map.1 (of_decide_eq_true hi.symm)
      rw [← inj (key hu h2 q hq) b eq]
      exact hq
    exact ⟨tow hv hu h1 h2 h, tow hu hv h2 h1 (fun i hi => (h i hi).symm)⟩
theorem Bools.drewN {W : World} {g : Nat} {f : Nat → Bool} (h : Bools W g f) (n : Nat) : Bools (W.drewN n) g f := ⟨h.lt, h.at_, h.free⟩
set_option maxRecDepth 100000 in
set_option maxHeartbeats 1000000 in
theorem l04Same_any (v u : Int) (s : Value) (bs : List Blk) (t : Value) (cs : List Blk) (w : World) (h : SB w s bs) (k : SB w t cs) (h1 : ∀ x ∈ bs, goodB v x = true) (h2 : ∀ x ∈ cs, goodB u x = true) (hv : v ≤ 15) (hu : u ≤ 15) :
    Calls Try.prog 148 #[s, t] w (RV (.bool (samePr bs cs)) w) := by
  have hs := h.slice
  have ht := k.slice
  have HP1 := Lib.hid (l04Pairs_any v s bs w h h1 hv)
  have HP2 := Lib.hid fun W (hb : Below w.heap.size w W) => l04Pairs_any u t cs W (k.below hb (Nat.le_refl _)) h2 hu
  have HNI := Lib.hid (num_inj hv hu h1 h2)
  clear h k h1 h2 hv hu
  obtain ⟨a, c, rfl⟩ := hs
  obtain ⟨a', c', rfl⟩ := ht
  go_enter Try.func148, Try.ntmps148
  go_wp2_with fail
  refine HP1.out.mono ?_
  rintro e w1 ⟨g1, rfl, hg1, hS1, hb1⟩
  have HS1 := Lib.hid hS1
  clear hS1
  go_wp2_with fail
  refine (HP2.out _ hb1).mono ?_
  rintro e w2 ⟨g2, rfl, hg2, hS2, hb2⟩
  have HS1' := Lib.hid (HS1.out.below hb2 (Nat.le_refl _))
  have HS2 := Lib.hid hS2
  have hbw := hb1.trans (hb2.mono hb1.size)
  clear hS2 hb1 hb2
  go_wp2_with fail
  go_loopw [7] (fun i wr => ∃ k : Nat, k ≤ 256 ∧ i = .int .i64 k ∧ (∃ n, wr = w2.drewN n) ∧ Hid (∀ j, j < k → inNum (prs bs) j = inNum (prs cs) j)) (fun i _ => 256 - (intOf i).toNat)
  case atStart => exact ⟨0, by omega, rfl, ⟨0, rfl⟩, Lib.hid (by omega)⟩
  case round =>
    obtain ⟨k, hk, rfl, ⟨n, rfl⟩, HE⟩ := hrel
    by_cases hkl : k < 256
    · have p1 := HS1'.out.at_ k hkl
      have p2 := HS2.out.at_ k hkl
      have g0 : (0 : Int) ≤ (k : Int) := by omega
      have g1 : (k : Int) < 256 := by omega
      by_cases he : inNum (prs bs) k = inNum (prs cs) k
      · have HQ := Lib.hid he
        rw [he] at p1
        have hnn : (inNum (prs cs) k != inNum (prs cs) k) = false := by simp
        clear he
        go_wp2
        go_quiet (fail)
        go_wp2
        go_roundw
        case rel => exact ⟨k + 1, by omega, by go_num, ⟨_, rfl⟩, Lib.hid fun j hj => by
          by_cases hjk : j = k
          · rw [hjk]; exact HQ.out
          · exact HE.out j (by omega)⟩
        case measure => simp [intOf]; omega
      · have HQ := Lib.hid he
        have hnn : (inNum (prs bs) k != inNum (prs cs) k) = true := by simpa using he
        clear he
        go_wp2
        go_quiet (fail)
        go_wp2
        · go_ret
          refine RV_of (bool_eq ?_) (below_drewN (below_drewN hbw _) _)
          cases hc : samePr bs cs
          · rfl
          · exact absurd (HNI.out.1 hc k hkl) HQ.out
        · exfalso
          apply HQ.out
          first
          | assumption
          | simpa using (show (inNum (prs bs) k != inNum (prs cs) k) = false by assumption)
    · go_wp2
      go_ret
      refine RV_of (bool_eq ?_) (below_drewN hbw _)
      exact (HNI.out.2 fun i hi => HE.out i (by omega)).symm
set_option maxRecDepth 100000 in
theorem l04Member_any (s : Value) (bs : List Blk) (x : Blk) (w : World) (h : SB w s bs) : Calls Try.prog 191 #[s, bv x] w (RV (.bool (decide (x ∈ bs))) w) := by
  have hs := h.slice
  have H := Lib.hid h
  have hl := h.2.1
  clear h
  obtain ⟨a, c, rfl⟩ := hs
  obtain ⟨x1, x2, x3⟩ := x
  unfold bv
  dsimp only
  go_enter Try.func191, Try.ntmps191
  go_wp2
  have B0 : Below w.heap.size w (w.alloc (.cells #[.int .i64 x1, .int .i64 x2, .int .i64 x3] 93)) := (Below.refl _ _).alloc (Nat.le_refl _) _
  obtain ⟨W, hW⟩ : ∃ W, W = w.alloc (.cells #[.int .i64 x1, .int .i64 x2, .int .i64 x3] 93) := ⟨_, rfl⟩
  have y0 : W.cell? ⟨w.heap.size, 0, none⟩ = some (.int .i64 x1) := by rw [hW]; simp
  have y1 : W.cell? ⟨w.heap.size, 1, none⟩ = some (.int .i64 x2) := by rw [hW]; simp
  have y2 : W.cell? ⟨w.heap.size, 2, none⟩ = some (.int .i64 x3) := by rw [hW]; simp
  rw [← hW] at B0 ⊢
  clear hW
  have hsb := H.out.below B0 (Nat.le_refl _)
  have HS := Lib.hid hsb
  clear hsb
  go_loopw [5] (fun i wr => ∃ k : Nat, k ≤ bs.length ∧ i = .int .i64 k ∧ (∃ n, wr = W.drewN n) ∧ Hid (¬ (⟨x1, x2, x3⟩ : Blk) ∈ bs.take k)) (fun i _ => bs.length - (intOf i).toNat)
  case atStart => exact ⟨0, Nat.zero_le _, rfl, ⟨0, rfl⟩, Lib.hid (by simp)⟩
  case round =>
    obtain ⟨k, hk, rfl, ⟨n, rfl⟩, HN⟩ := hrel
    by_cases hkl : k < bs.length
    · rcases HS.out.2.2 with ⟨_, _, _, hnil⟩ | ⟨b, off, cap, hval, hblt, hbl⟩
      · rw [hnil] at hkl; simp at hkl
      · simp at hval
        obtain ⟨rfl, rfl⟩ := hval
        obtain ⟨z, hz, ez, z1, z2, z3⟩ := blks_at hbl hkl
        have g0 : (0 : Int) ≤ (k : Int) := by omega
        have g1 : (k : Int) < (bs.length : Int) := by omega
        have hnx : bs.take (k + 1) = bs.take k ++ [z] := by
          have e : bs[k] = z := by
            rw [List.getElem?_eq_getElem hkl] at ez
            simpa using ez
          rw [take_next hkl, e]
        have HNX := Lib.hid hnx
        have HZ := Lib.hid hz
        have hq := run_eql_blk z ⟨x1, x2, x3⟩
        obtain ⟨q1, q2, q3⟩ := z
        unfold bv at hq
        dsimp only at hq z1 z2 z3
        clear hnx hz ez hbl
        by_cases he : (⟨q1, q2, q3⟩ : Blk) = ⟨x1, x2, x3⟩
        · have HEQ := Lib.hid he
          rw [decide_eq_true he] at hq
          clear he
          go_wp2
          go_quiet (fail)
          go_wp2
          go_ret
          exact RV_of (bool_eq (by rw [← HEQ.out]; simp [HZ.out])) (below_drewN (below_drewN B0 _) _)
        · have HEQ := Lib.hid he
          rw [decide_eq_false he] at hq
          clear he
          go_wp2
          go_quiet (fail)
          go_wp2
          go_roundw
          case rel => exact ⟨k + 1, by omega, by go_num, ⟨_, rfl⟩, Lib.hid (by rw [HNX.out]; simp only [List.mem_append, List.mem_singleton, not_or]; exact ⟨HN.out, fun e => HEQ.out e.symm⟩)⟩
          case measure => simp [intOf]; omega
    · go_wp2
      go_ret
      have e : k = bs.length := by omega
      subst e
      refine RV_of (bool_eq ?_) (below_drewN B0 _)
      have := HN.out
      rw [List.take_length] at this
      simp [this]
/-- A trade's box and those of its two systems. -/
structure Box5 (w : World) (v : Int) (so si : Value) (W : World) : Prop where
  below : Below w.heap.size w W
  lt : w.heap.size + 1 + 1 < W.heap.size
  a0 : W.cell? ⟨w.heap.size, 0, none⟩ = some (.int .i64 v)
  a1 : W.cell? ⟨w.heap.size, 1, none⟩ = some so
  a2 : W.cell? ⟨w.heap.size, 2, none⟩ = some si
  b0 : W.cell? ⟨w.heap.size + 1, 0, none⟩ = some (.int .i64 v)
  b1 : W.cell? ⟨w.heap.size + 1, 1, none⟩ = some so
  c0 : W.cell? ⟨w.heap.size + 1 + 1, 0, none⟩ = some (.int .i64 v)
  c1 : W.cell? ⟨w.heap.size + 1 + 1, 1, none⟩ = some si
theorem Box5.step {w W W' : World} {v : Int} {so si : Value} (h : Box5 w v so si W) (hb : Below W.heap.size W W') : Box5 w v so si W' := by
  have hl := h.lt
  exact ⟨h.below.trans (hb.mono h.below.size), Nat.lt_of_lt_of_le h.lt hb.size, (hb.cell (p := ⟨w.heap.size, 0, none⟩) (by show w.heap.size < _; omega)).trans h.a0, (hb.cell (p := ⟨w.heap.size, 1, none⟩) (by show w.heap.size < _; omega)).trans h.a1, (hb.cell (p := ⟨w.heap.size, 2, none⟩) (by show w.heap.size < _; omega)).trans h.a2,
    (hb.cell (p := ⟨w.heap.size + 1, 0, none⟩) (by show w.heap.size + 1 < _; omega)).trans h.b0, (hb.cell (p := ⟨w.heap.size + 1, 1, none⟩) (by show w.heap.size + 1 < _; omega)).trans h.b1,
    (hb.cell (p := ⟨w.heap.size + 1 + 1, 0, none⟩) (by show w.heap.size + 1 + 1 < _; omega)).trans h.c0, (hb.cell (p := ⟨w.heap.size + 1 + 1, 1, none⟩) (by show w.heap.size + 1 + 1 < _; omega)).trans h.c1⟩
def wTr (w : World) (v : Int) (so si : Value) : World := ((w.alloc (.cells #[.int .i64 v, so, si] 63)).alloc (.cells #[.int .i64 v, so] 31)).alloc (.cells #[.int .i64 v, si] 31)
theorem Box5.new (w : World) (v : Int) (so si : Value) : Box5 w v so si (wTr w v so si) := by
  unfold wTr
  exact ⟨(((Below.refl _ _).alloc (Nat.le_refl _) _).alloc (by simp) _).alloc (by simp; omega) _, by simp, by simp [go_sem], by simp [go_sem], by simp [go_sem], by simp [go_sem], by simp [go_sem], by simp [go_sem], by simp [go_sem]⟩
set_option maxRecDepth 100000 in
set_option maxHeartbeats 1000000 in
theorem l04Is_no (v : Int) (so : Value) (bo : List Blk) (si : Value) (bi : List Blk) (w : World) (h : TB w so bo si bi) (hb : (isSysImpl v bo && isSysImpl v bi && samePr bo bi) = false) :
    Calls Try.prog 127 #[.agg #[.int .i64 v, so, si]] w (RV (.bool false) w) := by
  have hs := h.1.slice
  have ht := h.2.slice
  have HC1 := Lib.hid fun W (hb : Below w.heap.size w W) => l01Is_any v so bo W (h.1.below hb (Nat.le_refl _))
  have HC2 := Lib.hid fun W (hb : Below w.heap.size w W) => l01Is_any v si bi W (h.2.below hb (Nat.le_refl _))
  have HS := Lib.hid fun (h1 : isSysImpl v bo = true) (h2 : isSysImpl v bi = true) W (hb : Below w.heap.size w W) => l04Same_any v v so bo si bi W (h.1.below hb (Nat.le_refl _)) (h.2.below hb (Nat.le_refl _)) (sys_good h1) (sys_good h2) (sys_parts h1).2.1 (sys_parts h2).2.1
  clear h
  obtain ⟨a, c, rfl⟩ := hs
  obtain ⟨a', c', rfl⟩ := ht
  have hm := Box5.new w v (.slice a bo.length c) (.slice a' bi.length c')
  have HM := Lib.hid hm
  clear hm
  cases h1 : isSysImpl v bo with
  | false =>
    rw [h1] at HC1
    clear hb h1 HS HC2
    go_enter Try.func127, Try.ntmps127
    go_wp2_with fail
    refine (HC1.out (wTr w v (.slice a bo.length c) (.slice a' bi.length c')) HM.out.below).mono ?_
    rintro e w1 ⟨rfl, hb1⟩
    have HM1 := Lib.hid (HM.out.step hb1)
    clear hb1
    go_wp2
    go_ret
    exact RV_of rfl HM1.out.below
  | true =>
    rw [h1] at HC1
    have hb' : (isSysImpl v bi && samePr bo bi) = false := by simpa [h1] using hb
    have HS1 := Lib.hid (HS.out h1)
    clear hb h1 HS
    cases h2 : isSysImpl v bi with
    | false =>
      rw [h2] at HC2
      clear hb' h2 HS1
      go_enter Try.func127, Try.ntmps127
      go_wp2_with fail
      refine (HC1.out (wTr w v (.slice a bo.length c) (.slice a' bi.length c')) HM.out.below).mono ?_
      rintro e w1 ⟨rfl, hb1⟩
      have hm1 := HM.out.step hb1
      have f0 := hm1.c0
      have f1 := hm1.c1
      have HM1 := Lib.hid hm1
      clear hb1 hm1
      go_wp2_with fail
      refine (HC2.out _ HM1.out.below).mono ?_
      rintro e w2 ⟨rfl, hb2⟩
      have HM2 := Lib.hid (HM1.out.step hb2)
      clear hb2
      go_wp2
      go_ret
      exact RV_of rfl HM2.out.below
    | true =>
      rw [h2] at HC2
      have hs3 : samePr bo bi = false := by simpa [h2] using hb'
      have hs4 := HS1.out h2
      rw [hs3] at hs4
      have HS2 := Lib.hid hs4
      clear hb' h2 HS1 hs3 hs4
      go_enter Try.func127, Try.ntmps127
      go_wp2_with fail
      refine (HC1.out (wTr w v (.slice a bo.length c) (.slice a' bi.length c')) HM.out.below).mono ?_
      rintro e w1 ⟨rfl, hb1⟩
      have hm1 := HM.out.step hb1
      have f0 := hm1.c0
      have f1 := hm1.c1
      have HM1 := Lib.hid hm1
      clear hb1 hm1
      go_wp2_with fail
      refine (HC2.out _ HM1.out.below).mono ?_
      rintro e w2 ⟨rfl, hb2⟩
      have hm2 := HM1.out.step hb2
      have k1 := hm2.a1
      have k2 := hm2.a2
      have HM2 := Lib.hid hm2
      clear hb2 hm2 f0 f1
      go_wp2_with fail
      refine (HS2.out _ HM2.out.below).mono ?_
      rintro e w3 ⟨rfl, hb3⟩
      have HM3 := Lib.hid (HM2.out.step hb3)
      clear hb3 k1 k2
      go_wp2
      go_ret
      exact RV_of rfl HM3.out.below
set_option maxRecDepth 100000 in
set_option maxHeartbeats 1000000 in
theorem l04Is_yes (v : Int) (so : Value) (bo : List Blk) (si : Value) (bi : List Blk) (w : World) (h : TB w so bo si bi) (h1 : isSysImpl v bo = true) (h2 : isSysImpl v bi = true) (h3 : samePr bo bi = true) :
    Calls Try.prog 127 #[.agg #[.int .i64 v, so, si]] w (RV (.bool (dsj bo bi)) w) := by
  have hs := h.1.slice
  have ht := h.2.slice
  have hl := h.1.2.1
  have HC1 := Lib.hid fun W (hb : Below w.heap.size w W) => l01Is_any v so bo W (h.1.below hb (Nat.le_refl _))
  have HC2 := Lib.hid fun W (hb : Below w.heap.size w W) => l01Is_any v si bi W (h.2.below hb (Nat.le_refl _))
  have HS2 := Lib.hid fun W (hb : Below w.heap.size w W) => l04Same_any v v so bo si bi W (h.1.below hb (Nat.le_refl _)) (h.2.below hb (Nat.le_refl _)) (sys_good h1) (sys_good h2) (sys_parts h1).2.1 (sys_parts h2).2.1
  rw [h1] at HC1
  rw [h2] at HC2
  rw [h3] at HS2
  have HMB := Lib.hid fun x W (hb : Below w.heap.size w W) => l04Member_any si bi x W (h.2.below hb (Nat.le_refl _))
  have HSB := Lib.hid h.1
  clear h h1 h2 h3
  obtain ⟨a, c, rfl⟩ := hs
  obtain ⟨a', c', rfl⟩ := ht
  have hm := Box5.new w v (.slice a bo.length c) (.slice a' bi.length c')
  have HM := Lib.hid hm
  clear hm
  go_enter Try.func127, Try.ntmps127
  go_wp2_with fail
  refine (HC1.out (wTr w v (.slice a bo.length c) (.slice a' bi.length c')) HM.out.below).mono ?_
  rintro e w1 ⟨rfl, hb1⟩
  have hm1 := HM.out.step hb1
  have f0 := hm1.c0
  have f1 := hm1.c1
  have HM1 := Lib.hid hm1
  clear hb1 hm1
  go_wp2_with fail
  refine (HC2.out _ HM1.out.below).mono ?_
  rintro e w2 ⟨rfl, hb2⟩
  have hm2 := HM1.out.step hb2
  have k1 := hm2.a1
  have k2 := hm2.a2
  have HM2 := Lib.hid hm2
  clear hb2 hm2 f0 f1
  go_wp2_with fail
  refine (HS2.out _ HM2.out.below).mono ?_
  rintro e w3 ⟨rfl, hb3⟩
  have HM3 := Lib.hid (HM2.out.step hb3)
  clear hb3 k1 k2
  go_wp2_with fail
  go_loopw [5] (fun i wr => ∃ k : Nat, k ≤ bo.length ∧ i = .int .i64 k ∧ Box5 w v (.slice a bo.length c) (.slice a' bi.length c') wr ∧ Hid (dsj (bo.take k) bi = true)) (fun i _ => bo.length - (intOf i).toNat)
  case atStart => exact ⟨0, Nat.zero_le _, rfl, HM3.out, Lib.hid (by simp [dsj])⟩
  case round =>
    obtain ⟨k, hk, rfl, hB, HD⟩ := hrel
    have q1 := hB.a1
    have q2 := hB.a2
    have HB := Lib.hid hB
    by_cases hkl : k < bo.length
    · rcases HSB.out.2.2 with ⟨_, _, _, hnil⟩ | ⟨b, off, cap, hval, hblt, hbl⟩
      · rw [hnil] at hkl; simp at hkl
      · simp at hval
        obtain ⟨rfl, rfl⟩ := hval
        obtain ⟨x, hx, ex, x1, x2, x3⟩ := blks_at (hbl.below hB.below hblt) hkl
        have g0 : (0 : Int) ≤ (k : Int) := by omega
        have g1 : (k : Int) < (bo.length : Int) := by omega
        have hnx : bo.take (k + 1) = bo.take k ++ [x] := by
          have e : bo[k] = x := by
            rw [List.getElem?_eq_getElem hkl] at ex
            simpa using ex
          rw [take_next hkl, e]
        have HNX := Lib.hid hnx
        have HX := Lib.hid hx
        have hmb := HMB.out x
        obtain ⟨p, q, r⟩ := x
        unfold bv at hmb
        dsimp only at hmb x1 x2 x3
        clear hnx hx ex hbl hB
        by_cases hin : (⟨p, q, r⟩ : Blk) ∈ bi
        · rw [decide_eq_true hin] at hmb
          have HI := Lib.hid hin
          have HMX := Lib.hid hmb
          clear hin hmb
          go_upto_region 8 with fail
          go_cut [46] (fun o wx => o = .bool true ∧ Below w.heap.size w wx)
          case first =>
            go_region_with (go_at_call 191; refine (HMX.out _ HB.out.below.drew).mono ?_; rintro e w4 ⟨rfl, hb4⟩)
            all_goals
              go_wp2_with fail
              go_meet
              exact ⟨rfl, HB.out.below.drew.trans (hb4.mono HB.out.below.size)⟩
          case rest =>
          obtain ⟨rfl, hbx⟩ := hcut
          go_wp2
          go_ret
          refine RV_of (bool_eq ?_) hbx
          symm
          rw [dsj, List.all_eq_false]
          exact ⟨_, HX.out, by simpa using HI.out⟩
        · rw [decide_eq_false hin] at hmb
          have HI := Lib.hid hin
          have HMX := Lib.hid hmb
          clear hin hmb
          go_upto_region 8 with fail
          go_cut [46] (fun o wx => o = .bool false ∧ Box5 w v (.slice (some ⟨b, off, none⟩) bo.length c) (.slice a' bi.length c') wx)
          case first =>
            go_region_with (go_at_call 191; refine (HMX.out _ HB.out.below.drew).mono ?_; rintro e w4 ⟨rfl, hb4⟩)
            all_goals
              go_wp2_with fail
              go_meet
              exact ⟨rfl, HB.out.step (((Below.refl _ _).drew).trans hb4)⟩
          case rest =>
          obtain ⟨rfl, hbx⟩ := hcut
          have HBX := Lib.hid hbx
          clear hbx
          go_wp2
          go_roundw
          case rel => exact ⟨k + 1, by omega, by go_num, HBX.out, Lib.hid (by
            have := HD.out
            rw [HNX.out]
            simp only [dsj, List.all_append, List.all_cons, List.all_nil, Bool.and_true, Bool.and_eq_true] at this ⊢
            exact ⟨this, by simpa using HI.out⟩)⟩
          case measure => simp [intOf]; omega
    · go_wp2
      go_ret
      have e : k = bo.length := by omega
      subst e
      refine RV_of (bool_eq ?_) HB.out.below
      have := HD.out
      rw [List.take_length] at this
      exact this.symm
theorem l04Is_any (v : Int) (so : Value) (bo : List Blk) (si : Value) (bi : List Blk) (w : World) (h : TB w so bo si bi) : Calls Try.prog 127 #[.agg #[.int .i64 v, so, si]] w (RV (.bool (trdB v bo bi)) w) := by
  cases hb : isSysImpl v bo && isSysImpl v bi && samePr bo bi with
  | false =>
    have e : trdB v bo bi = false := by
      unfold trdB
      rw [← Bool.and_assoc, hb, Bool.false_and]
    rw [e]
    exact l04Is_no v so bo si bi w h hb
  | true =>
    have e : trdB v bo bi = dsj bo bi := by
      unfold trdB
      rw [← Bool.and_assoc, hb, Bool.true_and]
    rw [e]
    simp only [Bool.and_eq_true] at hb
    exact l04Is_yes v so bo si bi w h hb.1.1 hb.1.2 hb.2
set_option maxRecDepth 100000 in
theorem specIsTrade_any (v : Int) (so : Value) (bo : List Blk) (si : Value) (bi : List Blk) (w : World) (h : TB w so bo si bi) : Calls Try.prog 63 #[.agg #[.int .i64 v, so, si]] w (RV (.bool (trdB v bo bi)) w) := by
  have hs := h.1.slice
  have ht := h.2.slice
  have HC := Lib.hid fun W (hb : Below w.heap.size w W) => l04Is_any v so bo si bi W (h.below hb (Nat.le_refl _))
  clear h
  obtain ⟨a, c, rfl⟩ := hs
  obtain ⟨a', c', rfl⟩ := ht
  go_enter Try.func63, Try.ntmps63
  go_wp2_with fail
  refine (HC.out _ ((Below.refl _ _).alloc (Nat.le_refl _) _)).mono ?_
  rintro e w1 ⟨rfl, hb1⟩
  go_wp2
  go_ret
  exact RV_of rfl (((Below.refl _ _).alloc (Nat.le_refl _) _).trans (hb1.mono (by simp)))
end Go.Proofs.Ytacfelgilphppaa

namespace Go.Proofs.Ytacfelgilphppaa
open Go.RowKit Go.Maps Go.Sort
theorem heap_set_own {w : World} {g o : Nat} {u : Value} {cs : Array Value} {e : TypeId} {fr : Nat × Nat} (h : w.heap[g]? = some (.cells cs e fr)) : (w.setCell ⟨g, o, none⟩ u).heap[g]? = some (.cells (cs.setIfInBounds o u) e fr) := by
  obtain ⟨hlt, hk⟩ := Array.getElem?_eq_some_iff.1 h
  show (w.heap.modify g _)[g]? = _
  rw [Array.getElem?_eq_getElem (by rw [Array.size_modify]; exact hlt), Array.getElem_modify_self, hk]
  rfl
theorem flat_set : ∀ (bs : List Blk) (i : Nat) (x : Blk), i < bs.length → (((bs.flatMap cells3).set (i * 3) (.int .i64 x.a)).set (i * 3 + 1) (.int .i64 x.b)).set (i * 3 + 2) (.int .i64 x.c) = (bs.set i x).flatMap cells3
  | [], _, _, h => by simp at h
  | y :: r, 0, x, _ => by simp [cells3]
  | y :: r, i + 1, x, h => by
    have ih := flat_set r i x (by simpa using h)
    rw [List.set_cons_succ, List.flatMap_cons, List.flatMap_cons, ← ih]
    rw [show (i + 1) * 3 = i * 3 + 1 + 1 + 1 by omega, show i * 3 + 1 + 1 + 1 + 1 = i * 3 + 1 + 1 + 1 + 1 from rfl, show i * 3 + 1 + 1 + 1 + 2 = i * 3 + 2 + 1 + 1 + 1 by omega]
    simp only [cells3, List.cons_append, List.nil_append, List.set_cons_succ]
theorem OwnR.set3 {w : World} {base g n cap : Nat} {bs : List Blk} (h : OwnR w base (.slice (some ⟨g, 0, none⟩) n cap) bs) {i : Nat} (hi : i < bs.length) (x : Blk) :
    OwnR (((w.setCell ⟨g, i * 3, none⟩ (.int .i64 x.a)).setCell ⟨g, i * 3 + 1, none⟩ (.int .i64 x.b)).setCell ⟨g, i * 3 + 2, none⟩ (.int .i64 x.c)) base (.slice (some ⟨g, 0, none⟩) n cap) (bs.set i x) := by
  obtain ⟨hl, h | ⟨g', cap', cur, hv, hb, hcur, hn, hc, hsz, hx⟩⟩ := h
  · cases h.1
  · cases hv
    refine ⟨by rw [flat_length, List.length_set], .inr ⟨g, cap, _, by rw [List.length_set], hb, heap_set_own (heap_set_own (heap_set_own hcur)), by rw [List.length_set]; exact hn, hc, by simpa using hsz, ?_⟩⟩
    rw [List.length_set, Array.toList_setIfInBounds, Array.toList_setIfInBounds, Array.toList_setIfInBounds, List.take_set, List.take_set, List.take_set, hx]
    exact flat_set bs i x hi
theorem OwnR.at_ {w : World} {base g n cap : Nat} {bs : List Blk} (h : OwnR w base (.slice (some ⟨g, 0, none⟩) n cap) bs) : n = bs.length ∧ base ≤ g ∧ OwnAt w g bs := by
  rcases h.res with ⟨rfl, a, c, e⟩ | ⟨g', cap', e, h1, h2, h3⟩
  · cases e
    obtain ⟨hl, h | ⟨g', cap', cur, hv, hb, hcur, hn, hc, hsz, hx⟩⟩ := h
    · cases h.1
    · cases hv
      exact ⟨rfl, hb, ⟨(Array.getElem?_eq_some_iff.1 hcur).1, fun k hk => by simp at hk, fun o => by simp [World.frozen?, hcur]⟩⟩
  · cases e
    exact ⟨rfl, h1, h3⟩

theorem heap_put {w : World} {g n : Nat} {os : Array Obj} {cur : Array Value} {e : TypeId} {fr : Nat × Nat} (F : Array Value) (hb : w.heap[g]? = some (.cells cur e fr)) :
    (grow (putRow id (Sort.ahead w n) g 0 F) os).heap[g]? = some (.cells (putCells id 0 F cur) e fr) := by
  have hg : g < w.heap.size := (Array.getElem?_eq_some_iff.1 hb).1
  rw [heap_grow_old _ _ (by simpa using hg)]
  simp [putRow, mapBlock, Sort.ahead, Array.getElem?_modify, hb, onCells]
theorem grownBy_put {w : World} {g n : Nat} {os : Array Obj} (F : Array Value) : w.grownBy (grow (putRow id (Sort.ahead w n) g 0 F) os) (some g) := by
  refine ⟨rfl, rfl, rfl, by simp, fun k hk hne => ?_⟩
  rw [heap_grow_old _ _ (by simpa using hk)]
  have : g ≠ k := fun e => hne (by rw [e])
  simp [putRow, mapBlock, Sort.ahead, Array.getElem?_modify, this]
theorem take_put (cur F : Array Value) (h : F.size ≤ cur.size) : (putCells id 0 F cur).toList.take F.size = F.toList := by
  apply List.ext_getElem?
  intro j
  by_cases hj : j < F.size
  · rw [List.getElem?_take_of_lt hj, Array.getElem?_toList]
    simp [putCells, hj, show j < cur.size by omega]
  · rw [List.getElem?_take_eq_none (by omega), List.getElem?_eq_none (by simp; omega)]
theorem cells3_at (x : Blk) : (cells3 x)[0]! = .int .i64 x.a ∧ (cells3 x)[1]! = .int .i64 x.b ∧ (cells3 x)[2]! = .int .i64 x.c := ⟨rfl, rfl, rfl⟩
theorem flatK_at (bs : List Blk) (j : Nat) (h : j < bs.length * 3) : (flatK cells3 3 bs.toArray)[j]! = (bs.flatMap cells3)[j]?.getD undef := by
  rw [get_flatK _ _ _ _ (by simpa using h)]
  have hk : j / 3 < bs.length := by omega
  obtain ⟨h0, h1, h2⟩ := flat_at bs (j / 3) hk
  obtain ⟨c0, c1, c2⟩ := cells3_at (bs.toArray[j / 3]!)
  have e : bs.toArray[j / 3]! = bs[j / 3]?.getD default := by simp [hk]
  rw [e] at c0 c1 c2
  rw [e]
  have hm : j % 3 = 0 ∨ j % 3 = 1 ∨ j % 3 = 2 := by omega
  rcases hm with hm | hm | hm
  · rw [hm, c0]; rw [show j / 3 * 3 = j by omega] at h0; rw [h0]; rfl
  · rw [hm, c1]; rw [show j / 3 * 3 + 1 = j by omega] at h1; rw [h1]; rfl
  · rw [hm, c2]; rw [show j / 3 * 3 + 2 = j by omega] at h2; rw [h2]; rfl
theorem flatK_list (bs : List Blk) : (flatK cells3 3 bs.toArray).toList = bs.flatMap cells3 := by
  apply List.ext_getElem?
  intro j
  by_cases hj : j < bs.length * 3
  · have h1 := flatK_at bs j hj
    have hs : j < (flatK cells3 3 bs.toArray).size := by rw [size_flatK]; simpa using hj
    rw [getElem!_pos _ j hs] at h1
    rw [Array.getElem?_toList, Array.getElem?_eq_getElem hs, h1]
    have hf : j < (bs.flatMap cells3).length := by rw [flat_length]; exact hj
    rw [List.getElem?_eq_getElem hf]
    rfl
  · have h1 : (flatK cells3 3 bs.toArray).toList.length = bs.length * 3 := by rw [Array.length_toList, size_flatK]; simp
    rw [List.getElem?_eq_none (by omega), List.getElem?_eq_none (by rw [flat_length]; omega)]
theorem OwnAt.holds {w : World} {g : Nat} {bs : List Blk} (h : OwnAt w g bs) : HoldsK cells3 3 w g 0 bs.toArray := by
  intro j hj
  rw [size_flatK, List.size_toArray] at hj
  refine ⟨?_, h.free _⟩
  rw [flatK_at bs j hj, Nat.zero_add]
  obtain ⟨h0, h1, h2⟩ := h.at_ (j / 3) (by omega)
  obtain ⟨f0, f1, f2⟩ := flat_at bs (j / 3) (by omega)
  rw [Nat.zero_add] at h0 h1 h2
  have hm : j % 3 = 0 ∨ j % 3 = 1 ∨ j % 3 = 2 := by omega
  rcases hm with hm | hm | hm
  · rw [show j / 3 * 3 = j by omega] at h0 f0; rw [h0, f0]; rfl
  · rw [show j / 3 * 3 + 1 = j by omega] at h1 f1; rw [h1, f1]; rfl
  · rw [show j / 3 * 3 + 2 = j by omega] at h2 f2; rw [h2, f2]; rfl
/-- Behind the sort the same slice owns the blocks in order. -/
theorem OwnR.sorted {w : World} {base g n cap : Nat} {bs cs : List Blk} (h : OwnR w base (.slice (some ⟨g, 0, none⟩) n cap) bs) (hl : cs.length = bs.length) (m : Nat) (os : Array Obj) :
    OwnR (sortWorldK cells3 3 w g 0 m cs.toArray os) base (.slice (some ⟨g, 0, none⟩) n cap) cs ∧ w.grownBy (sortWorldK cells3 3 w g 0 m cs.toArray os) (some g) := by
  refine ⟨?_, grownBy_put _⟩
  obtain ⟨hl2, h | ⟨g', cap', cur, hv, hb, hcur, hn, hc, hsz, hx⟩⟩ := h
  · cases h.1
  · cases hv
    have hF : (flatK cells3 3 cs.toArray).size = cs.length * 3 := by rw [size_flatK]; simp
    refine ⟨by rw [flat_length], .inr ⟨g, cap, _, by rw [hl], hb, heap_put _ hcur, by rw [hl]; exact hn, hc, by simp [putCells]; omega, ?_⟩⟩
    rw [← hF, take_put _ _ (by rw [hF, hl]; have := Nat.mul_le_mul_right 3 hn; omega)]
    exact flatK_list cs
theorem lt_bef (x y : Blk) : ltOf cmpB x y = befB x y := by
  unfold ltOf
  rw [Bool.eq_iff_iff, ← cmpB_neg]
  simp
theorem swoB : SWO (ltOf cmpB) where
  irrefl x := by rw [lt_bef]; exact bef_irrefl x
  trans x y z h1 h2 := by rw [lt_bef] at *; exact bef_trans h1 h2
  ntrans x y z h1 h2 := by rw [lt_bef] at *; exact bef_ntrans h1 h2
theorem totB (x y : Blk) (h1 : ltOf cmpB x y = false) (h2 : ltOf cmpB y x = false) : x = y := by rw [lt_bef] at *; exact bef_total h1 h2
theorem mergeB (bs : List Blk) : (bs.mergeSort fun x y => !ltOf cmpB y x) = sortB bs := by
  rw [← sortB_merge]
  congr 1
  funext x y
  rw [lt_bef]
theorem compareBlocks_lays (x y : Blk) (w : World) : Calls Try.prog 162 #[bv x, bv y] w fun e w' => e = .returned (.int .i64 (cmpB x y)) ∧ ∃ q os, w' = grow (w.drewN q) os := by
  obtain ⟨a, b, c⟩ := x
  obtain ⟨d, e, f⟩ := y
  unfold bv
  dsimp only
  go_enter Try.func162, Try.ntmps162
  go_wp2
  go_quiet ((go_at_call 114; exact RS.quiet (Compare_any _ 0 _ _ 0 _ [a, b, c] [d, e, f] _ (ints3 (by simp [go_sem]) (by simp [go_sem]) (by simp [go_sem])) (ints3 (by simp [go_sem]) (by simp [go_sem]) (by simp [go_sem])) (by simp) (by simp))))
  go_wp2
  go_ret
  exact ⟨rfl, _, _, by rw [alloc_eq_grow, alloc_eq_grow, grow_grow]; rfl⟩
end Go.Proofs.Ytacfelgilphppaa

namespace Go.Proofs.Ytacfelgilphppaa
open Go.RowKit Go.Maps
/-- The value is a slice of just these blocks; of the numbers nothing is said. -/
def SX (w : World) (s : Value) (bs : List Blk) : Prop := (∃ a c, s = .slice a 0 c ∧ bs = []) ∨ ∃ b off cap, s = .slice (some ⟨b, off, none⟩) bs.length cap ∧ b < w.heap.size ∧ Blks w b off bs
theorem SB.sx {w : World} {s : Value} {bs : List Blk} (h : SB w s bs) : SX w s bs := h.2.2
theorem SX.below {w w' : World} {s : Value} {bs : List Blk} (h : SX w s bs) {B : Nat} (hb : Below B w w') (hB : w.heap.size ≤ B) : SX w' s bs := by
  rcases h with h3 | ⟨b, off, cap, rfl, hl, hr⟩
  · exact .inl h3
  · exact .inr ⟨b, off, cap, rfl, by have := hb.size; omega, hr.below hb (by omega)⟩
theorem OwnR.sx {w : World} {base : Nat} {s : Value} {bs : List Blk} (h : OwnR w base s bs) : SX w s bs := by
  rcases h.res with ⟨rfl, a, c, rfl⟩ | ⟨g, cap, rfl, _, _, ho⟩
  · exact .inl ⟨a, c, rfl, rfl⟩
  · exact .inr ⟨g, 0, cap, rfl, ho.lt, ho.at_⟩
theorem OwnR.form {w : World} {base : Nat} {s : Value} {bs : List Blk} (h : OwnR w base s bs) : ∃ a c, s = .slice a bs.length c := by
  rcases h.res with ⟨rfl, a, c, rfl⟩ | ⟨g, cap, rfl, _⟩ <;> exact ⟨_, _, rfl⟩
theorem blks_flat {w : World} {b off : Nat} {bs : List Blk} (h : Blks w b off bs) (j : Nat) (u : Value) (hu : (bs.flatMap cells3)[j]? = some u) : w.cell? ⟨b, off + j, none⟩ = some u := by
  have hj : j < bs.length * 3 := by
    rw [← flat_length]
    exact (List.getElem?_eq_some_iff.1 hu).1
  obtain ⟨h0, h1, h2⟩ := h (j / 3) (by omega)
  obtain ⟨f0, f1, f2⟩ := flat_at bs (j / 3) (by omega)
  have hm : j % 3 = 0 ∨ j % 3 = 1 ∨ j % 3 = 2 := by omega
  rcases hm with hm | hm | hm
  · rw [show j / 3 * 3 = j by omega] at f0
    rw [show off + j / 3 * 3 = off + j by omega] at h0
    rw [h0, ← hu, f0]
  · rw [show j / 3 * 3 + 1 = j by omega] at f1
    rw [show off + j / 3 * 3 + 1 = off + j by omega] at h1
    rw [h1, ← hu, f1]
  · rw [show j / 3 * 3 + 2 = j by omega] at f2
    rw [show off + j / 3 * 3 + 2 = off + j by omega] at h2
    rw [h2, ← hu, f2]
theorem flat_one (bs : List Blk) : ∀ u ∈ bs.flatMap cells3, u.oneCell' = true := by
  intro u hu
  obtain ⟨x, _, hx⟩ := List.mem_flatMap.1 hu
  simp [cells3] at hx
  rcases hx with rfl | rfl | rfl <;> rfl
theorem run_append_many (w : World) (ty : TypeId) (base : Nat) (v : Value) (bs : List Blk) (hown : OwnR w base v bs) (x : Value) (cs : List Blk) (hx : SX w x cs) (hl : bs.length + cs.length ≤ 2200000) (hb : base ≤ w.heap.size) :
    ∃ v' w', (Builtin.append_ #[29, 29] ty #[v, x]).run Try.prog w = .ok v' w' ∧ OwnR w' base v' (bs ++ cs) ∧ w.grownBy w' v.ownBlock := by
  obtain ⟨i0, hi, hz0, hz1, hz2⟩ := info_parts infoBlock
  have key : ∀ (a : Addr) (m c : Nat) (news : List Value), x = .slice (some a) m c → m = cs.length → news = cs.flatMap cells3 → (∀ j u, news[j]? = some u → w.cell? (a.add j) = some u) →
      ∃ v' w', (Builtin.append_ #[29, 29] ty #[v, x]).run Try.prog w = .ok v' w' ∧ OwnR w' base v' (bs ++ cs) ∧ w.grownBy w' v.ownBlock := by
    intro a m c news ex em en hn
    subst ex
    subst en
    subst em
    obtain ⟨v', w', h1, h2, h3, _⟩ := run_append_own_at (P := Try.prog) w base 29 ty 93 i0 _ 3 24 Try.underlying29 hi hz0 hz1 hz2 rfl (by decide) v bs.length (bs.flatMap cells3) hown a cs.length c (cs.flatMap cells3) (flat_length cs) hn (flat_one cs) (by unfold maxLen; omega) (by omega) hb
    exact ⟨v', w', h1, by unfold OwnR; rw [List.length_append, List.flatMap_append]; exact h2, h3⟩
  rcases hx with ⟨a, c, rfl, rfl⟩ | ⟨b, off, cap, rfl, _, hbl⟩
  · cases a with
    | some a => exact key a 0 c [] rfl rfl rfl (by simp)
    | none =>
      refine ⟨v, w, ?_, by rw [List.append_nil]; exact hown, only_refl _ _⟩
      obtain ⟨a, c', rfl⟩ := hown.form
      have hroom : bs.length ≤ c' := by
        rcases hown.2 with ⟨h, h0⟩ | ⟨g, cap, cur, h, _, _, hn, _⟩
        · rw [h0]; exact Nat.zero_le _
        · simp at h; omega
      have hc : ∀ W : World, (Builtin.lenOf (.slice none 0 c)).run Try.prog W = .ok 0 W := fun _ => rfl
      have hc2 : ∀ W : World, (Builtin.firstCells 3 0 (.slice none 0 c)).run Try.prog W = .ok #[] W := fun _ => rfl
      simp [Builtin.append_, run_underlying Try.underlying29, sizeOf, typeInfo, hi, hz1, hc, hc2, hroom]
      cases a <;> rfl
  · refine key ⟨b, off, none⟩ cs.length cap (cs.flatMap cells3) rfl rfl rfl fun j u hu => ?_
    rw [addr_at]
    exact blks_flat hbl j u hu
theorem wp_append_many {w : World} {o : Oper} {a : Act} {K : Act → World → Prop} {Q : Exit → Act → World → Prop} (s x : Operand)
    (ho : o.op = .call { callee := .builtin .append, args := #[s, x], argTypes := #[29, 29] })
    (base : Nat) (v : Value) (bs : List Blk) (hs : a.eval s = v) (hown : OwnR w base v bs) (xv : Value) (cs : List Blk) (hxv : a.eval x = xv) (hx : SX w xv cs) (hl : bs.length + cs.length ≤ 2200000) (hb : base ≤ w.heap.size)
    (h : ∀ (a' : Option Addr) (c' : Nat) (w' : World), OwnR w' base (.slice a' (bs.length + cs.length) c') (bs ++ cs) → w.grownBy w' v.ownBlock → K (a.put o.dst (.slice a' (bs.length + cs.length) c')) w') : o.wp Try.prog a w K Q := by
  obtain ⟨v', w', hr, h2, h3⟩ := run_append_many w o.type base v bs hown xv cs hx hl hb
  obtain ⟨a', c', hv⟩ := h2.form
  rw [List.length_append] at hv
  subst hv
  unfold Oper.wp execOp
  simp only [ho, resolve, invoke, builtin, Sem.run_bind, Sem.run_pure, Result.andThen_ok, List.map_toArray, List.map_cons, List.map_nil, hs, hxv, hr]
  exact h a' c' w' h2 h3
theorem wpList_append_many {w : World} {ops : Array Oper} {rest : List Oper} {o : Oper} {a : Act} {Q : Exit → Act → World → Prop} (hgd : o.guard = none) (s x : Operand)
    (ho : o.op = .call { callee := .builtin .append, args := #[s, x], argTypes := #[29, 29] })
    (base : Nat) (v : Value) (bs : List Blk) (hs : a.eval s = v) (hown : OwnR w base v bs) (xv : Value) (cs : List Blk) (hxv : a.eval x = xv) (hx : SX w xv cs) (hl : bs.length + cs.length ≤ 2200000) (hb : base ≤ w.heap.size)
    (h : ∀ (a' : Option Addr) (c' : Nat) (w' : World), OwnR w' base (.slice a' (bs.length + cs.length) c') (bs ++ cs) → w.grownBy w' v.ownBlock → wpList Try.prog ops Q rest (a.put o.dst (.slice a' (bs.length + cs.length) c')) w') : wpList Try.prog ops Q (o :: rest) a w :=
  wpList_plain hgd fun _ hK => wp_append_many s x ho base v bs hs hown xv cs hxv hx hl hb fun a' c' w' h1 h2 => hK _ _ (h a' c' w' h1 h2)
theorem step_append_many {w : World} {ops : Array Oper} {o : Oper} {a : Act} {K : Act → World → Prop} {Q : Exit → Act → World → Prop} {E : Prop} (hgd : o.guard = none) (s x : Operand)
    (ho : o.op = .call { callee := .builtin .append, args := #[s, x], argTypes := #[29, 29] })
    (base : Nat) (v : Value) (bs : List Blk) (hs : a.eval s = v) (hown : OwnR w base v bs) (xv : Value) (cs : List Blk) (hxv : a.eval x = xv) (hx : SX w xv cs) (hl : bs.length + cs.length ≤ 2200000) (hb : base ≤ w.heap.size)
    (h : ∀ (a' : Option Addr) (c' : Nat) (w' : World), OwnR w' base (.slice a' (bs.length + cs.length) c') (bs ++ cs) → w.grownBy w' v.ownBlock → K (a.put o.dst (.slice a' (bs.length + cs.length) c')) w') :
    if Region.wanted o (yielded ops a.tmps) = true then Oper.wp Try.prog o a w K Q else E := by
  have hw : Region.wanted o (yielded ops a.tmps) = true := by simp [Region.wanted, hgd]
  rw [if_pos hw]
  exact wp_append_many s x ho base v bs hs hown xv cs hxv hx hl hb h
end Go.Proofs.Ytacfelgilphppaa

namespace Go.Proofs.Ytacfelgilphppaa
open Go.RowKit Go.Maps
theorem lit_own' (W : World) : OwnR (W.alloc (.cells #[] 93)) W.heap.size (.slice (some ⟨W.heap.size, 0, none⟩) 0 0) [] := OwnR.lit W
set_option maxRecDepth 100000 in
set_option maxHeartbeats 2000000 in
theorem l04Less_any (s : Value) (bs : List Blk) (t : Value) (cs : List Blk) (w : World) (h : SB w s bs) (k : SB w t cs) :
    Calls Try.prog 134 #[s, t] w (RA (lessL bs cs) w) := by
  have hs := h.slice
  have ht := k.slice
  have hl := h.2.1
  have HMB := Lib.hid fun x W (hb : Below w.heap.size w W) => l04Member_any t cs x W (k.below hb (Nat.le_refl _))
  have HSB := Lib.hid h
  clear h k
  obtain ⟨a, c, rfl⟩ := hs
  obtain ⟨a', c', rfl⟩ := ht
  have ho0 := Lib.hid (lit_own' w)
  go_enter Try.func134, Try.ntmps134
  go_wp2_with fail
  go_loopw [5, 6] (fun o i wr => ∃ k : Nat, k ≤ bs.length ∧ i = .int .i64 k ∧ Below w.heap.size w wr ∧ OwnR wr w.heap.size o (lessL (bs.take k) cs) ∧ ∃ a n c, o = .slice a n c) (fun _ i _ => bs.length - (intOf i).toNat)
  case atStart => exact ⟨0, Nat.zero_le _, rfl, (Below.refl _ _).alloc (Nat.le_refl _) _, ho0.out, _, _, _, rfl⟩
  case round =>
    obtain ⟨k, hk, rfl, hBr, hO, hform⟩ := hrel
    have hSl := hBr.size
    by_cases hkl : k < bs.length
    · rcases HSB.out.2.2 with ⟨_, _, _, hnil⟩ | ⟨b, off, cap, hval, hblt, hbl⟩
      · rw [hnil] at hkl; simp at hkl
      · simp at hval
        obtain ⟨rfl, rfl⟩ := hval
        have hblr := hbl.below hBr hblt
        obtain ⟨x, hx, ex, x1, x2, x3⟩ := blks_at hblr hkl
        have hnx := filter_take_next (p := fun x => !decide (x ∈ cs)) hkl ex
        have hlc := lessL_length (bs.take k) cs
        have hlc2 : (bs.take k).length ≤ bs.length := by simp; omega
        have g0 : (0 : Int) ≤ (k : Int) := by omega
        have g1 : (k : Int) < (bs.length : Int) := by omega
        have hmb := HMB.out x
        obtain ⟨p, q, r⟩ := x
        have HNX := Lib.hid hnx
        have HBR := Lib.hid hBr
        unfold bv at hmb
        dsimp only at hmb x1 x2 x3
        clear hbl hx ex hnx hblr hBr
        obtain ⟨a3, n3, c3, rfl⟩ := hform
        have HO := Lib.hid hO
        clear hO
        by_cases hin : (⟨p, q, r⟩ : Blk) ∈ cs
        · rw [decide_eq_true hin] at hmb
          have HM := Lib.hid hmb
          have hcl : lessL (bs.take (k + 1)) cs = lessL (bs.take k) cs := by
            unfold lessL
            rw [HNX.out, if_neg (by simpa using hin), List.append_nil]
          have HCL := Lib.hid hcl
          clear hcl hmb hin
          go_wp2_with fail
          refine (HM.out _ HBR.out).mono ?_
          rintro e w2 ⟨rfl, hb2⟩
          have HB2 := Lib.hid (HBR.out.trans (hb2.mono hSl))
          have HO2 := Lib.hid (HO.out.below hb2 (Nat.le_refl _))
          clear hb2
          go_wp2
          go_roundw
          case rel => exact ⟨k + 1, by omega, by go_num, HB2.out, by rw [HCL.out]; exact HO2.out, _, _, _, rfl⟩
          case measure => simp [intOf]; omega
        · rw [decide_eq_false hin] at hmb
          have HM := Lib.hid hmb
          have hcl : lessL (bs.take (k + 1)) cs = lessL (bs.take k) cs ++ [⟨p, q, r⟩] := by
            unfold lessL
            rw [HNX.out, if_pos (by simpa using hin)]
          have HCL := Lib.hid hcl
          clear hcl hmb hin
          go_wp2_with fail
          refine (HM.out _ HBR.out).mono ?_
          rintro e w2 ⟨rfl, hb2⟩
          have z1 := (hb2.cell (p := ⟨b, off + k * 3, none⟩) (show b < wr.heap.size by omega)).trans x1
          have z2 := (hb2.cell (p := ⟨b, off + k * 3 + 1, none⟩) (show b < wr.heap.size by omega)).trans x2
          have z3 := (hb2.cell (p := ⟨b, off + k * 3 + 2, none⟩) (show b < wr.heap.size by omega)).trans x3
          have hB2 := HBR.out.trans (hb2.mono hSl)
          have HB2 := Lib.hid hB2
          have HO2 := Lib.hid (HO.out.below hb2 (Nat.le_refl _))
          have hz2 := hB2.size
          clear hb2 x1 x2 x3 hB2
          go_wp2_with (at_builtin; refine wpList_append_blk rfl _ _ rfl w.heap.size _ (lessL (bs.take k) cs) rfl (HO2.out.below ((Below.refl _ _).alloc (Nat.le_refl _) _) (Nat.le_refl _)) _ _ ⟨p, q, r⟩ rfl (by simp [go_sem]) (by simp [go_sem]) (by simp [go_sem]) (by omega) (by simp; omega) ?_; intro g' cap' w4 hO4 hg4)
          have hrow := HO2.out.row
          have hgo : w2.grownBy w4 (Value.slice a3 n3 c3).ownBlock := ⟨hg4.os, hg4.tape, hg4.output, by have := hg4.size; simp at this; omega, fun i hi hne => by
            rw [hg4.block i (by simp; omega) hne, Below.heap_alloc _ _ _ hi]⟩
          clear hg4 z1 z2 z3
          go_roundw
          case rel => exact ⟨k + 1, by omega, by go_num, HB2.out.grown hgo hz2 (fun j e => hrow j e), by rw [HCL.out]; exact hO4, _, _, _, rfl⟩
          case measure => simp [intOf]; omega
    · obtain ⟨a3, n3, c3, rfl⟩ := hform
      go_wp2
      go_ret
      have e : k = bs.length := by omega
      subst e
      rw [List.take_length] at hO
      exact ⟨_, rfl, hO, hBr⟩
end Go.Proofs.Ytacfelgilphppaa

namespace Go.Proofs.Ytacfelgilphppaa
open Go.RowKit Go.Maps
theorem pv_of_key {key : Value} {kl : Lit} (h : keyOf Try.prog 172 key = some kl) : ∃ x : Int × Int, key = pv x ∧ WF x.1 ∧ WF x.2 := by
  obtain ⟨n, hn⟩ := typesSize
  have r2 : List.range 2 = [0, 1] := rfl
  cases key <;> simp [keyOf, Try.underlying172, pairT, Value.formed, pairCells, hn, Program.keyLits, int64Cells, Value.cells, r2] at h
  rename_i cs
  obtain ⟨hsz, ls, hls, _⟩ := h
  match cs, hsz with
  | ⟨[c0, c1]⟩, hsz2 =>
    clear hsz2
    cases c0 <;> simp at hls
    rename_i q0 x0
    by_cases h0 : q0 = IntKind.i64 ∧ (Lit.int IntKind.i64 x0).wf = true
    · obtain ⟨rfl, w0⟩ := h0
      simp [w0] at hls
      cases c1 <;> simp at hls
      rename_i q1 x1
      by_cases h1 : q1 = IntKind.i64 ∧ (Lit.int IntKind.i64 x1).wf = true
      · obtain ⟨rfl, w1⟩ := h1
        exact ⟨(x0, x1), rfl, w0, w1⟩
      · simp [h1] at hls
    · simp [h0] at hls
section
variable {P : Program} {k e : TypeId} {b n : Nat} {vs : List Value} {w : World}
/-- The keys of a set. -/
theorem BoolSet.has (h : BoolSet w P k e b n vs) (K : Keyed P k) {key : Value} {kl : Lit} (hkey : keyOf P k key = some kl) : Maps.has (setOf (H := Unit) (.lit (.bool true)) (vs.map (keyLit P k))) kl = true ↔ key ∈ vs := by
  have hkl : ∀ x ∈ vs.map (keyLit P k), WideAt.IsKeyLit x := fun x hx => by
    obtain ⟨y, hy, rfl⟩ := List.mem_map.1 hx
    exact K.key (h.keys y hy)
  rw [has_setOf _ _ _ hkl, List.any_eq_true]
  constructor
  · rintro ⟨x, hx, hs⟩
    obtain ⟨y, hy, rfl⟩ := List.mem_map.1 hx
    have e1 := WideAt.sameKey_eq hs
    rw [K.inj hkey ((h.keys y hy).trans (by rw [e1]))]
    exact hy
  · intro hx
    refine ⟨keyLit P k key, List.mem_map.2 ⟨key, hx, rfl⟩, ?_⟩
    have e1 : keyLit P k key = kl := by simp [keyLit, hkey]
    rw [e1]
    exact WideAt.sameKey_self (K.key hkey)
theorem BoolSet.elem (h : BoolSet w P k e b n vs) (K : Keyed P k) {key : Value} {kl : Lit} (hkey : keyOf P k key = some kl) {y : DataW Unit} (hat : ∀ zd, (setOf (H := Unit) (.lit (.bool true)) (vs.map (keyLit P k))).atKey kl zd = y) : key ∈ vs ∧ y = .lit (.bool true) := by
  have hkl : ∀ x ∈ vs.map (keyLit P k), WideAt.IsKeyLit x := fun x hx => by
    obtain ⟨y, hy, rfl⟩ := List.mem_map.1 hx
    exact K.key (h.keys y hy)
  have hin := (h.has K hkey).1 (has_true_of_atKey hat)
  refine ⟨hin, ?_⟩
  have e1 : keyLit P k key = kl := by simp [keyLit, hkey]
  rcases atKey_fold (.lit (.bool true)) .nil kl (vs.map (keyLit P k)) (.map []) isMap_empty hkl with ⟨_, h2⟩ | ⟨h1, _⟩
  · exact (hat .nil).symm.trans h2
  · exact absurd (List.mem_map.2 ⟨key, hin, e1⟩) h1
theorem addKey_len : ∀ (ls acc : List Lit), ls.Nodup → (∀ x ∈ ls, WideAt.IsKeyLit x) → (∀ x ∈ ls, x ∉ acc) → (ls.foldl addKey acc).length = acc.length + ls.length
  | [], acc, _, _, _ => by simp
  | x :: r, acc, hn, hk, hd => by
    rw [List.nodup_cons] at hn
    have e : addKey acc x = acc ++ [x] := by
      unfold addKey
      rw [if_neg]
      simp only [List.any_eq_true, not_exists, not_and]
      intro y hy hs
      exact hd x (by simp) (WideAt.sameKey_eq hs ▸ hy)
    rw [List.foldl_cons, e, addKey_len r _ hn.2 (fun y hy => hk y (by simp [hy])) (fun y hy => by
      simp only [List.mem_append, List.mem_singleton, not_or]
      exact ⟨hd y (by simp [hy]), fun e => hn.1 (e ▸ hy)⟩)]
    simp; omega
theorem BoolSet.size (h : BoolSet w P k e b n vs) (K : Keyed P k) (hn : vs.Nodup) : Maps.size (setOf (H := Unit) (.lit (.bool true)) (vs.map (keyLit P k))) = vs.length := by
  have hkl : ∀ x ∈ vs.map (keyLit P k), WideAt.IsKeyLit x := fun x hx => by
    obtain ⟨y, hy, rfl⟩ := List.mem_map.1 hx
    exact K.key (h.keys y hy)
  have hnd : (vs.map (keyLit P k)).Nodup := by
    refine List.pairwise_map.2 (hn.imp_of_mem fun {x y} hx hy hne e => hne ?_)
    exact K.inj (h.keys x hx) (by rw [e]; exact h.keys y hy)
  rw [size_setOf _ _ hkl, addKey_len _ _ hnd hkl (by simp)]
  simp
theorem BoolSet.look_ok (h : BoolSet w P k e b n vs) (K : Keyed P k) {t : TypeId} (ht : P.underlying t = some (.map k e)) (he : P.underlying e = some .bool) (hz : (zeroValue e).run P w = .ok (.bool false) w)
    {key : Value} {kl : Lit} (hkey : keyOf P k key = some kl) : ∃ β : Bool, (Instr.lookup t (.map (some b)) key true).run P w = .ok (.tuple #[.bool β, .bool β]) w ∧ (β = true ↔ key ∈ vs) := by
  obtain ⟨v, ps, hrun, hv⟩ := h.owns.look_ok K ht hz (plainElem_bool he false) hkey
  have hh := h.has K hkey
  have hkl : ∀ x ∈ vs.map (keyLit P k), WideAt.IsKeyLit x := fun x hx => by
    obtain ⟨y, hy, rfl⟩ := List.mem_map.1 hx
    exact K.key (h.keys y hy)
  have e1 : keyLit P k key = kl := by simp [keyLit, hkey]
  have hat := atKey_fold (.lit (.bool true)) (.lit (.bool false)) kl (vs.map (keyLit P k)) (.map []) isMap_empty hkl
  have e0 : (DataW.map (H := Unit) []).atKey kl (.lit (.bool false)) = .lit (.bool false) := atKey_of_not_has rfl _
  rw [e0] at hat
  refine ⟨Maps.has (setOf (H := Unit) (.lit (.bool true)) (vs.map (keyLit P k))) kl, ?_, hh⟩
  have hval : v = .bool (Maps.has (setOf (H := Unit) (.lit (.bool true)) (vs.map (keyLit P k))) kl) := by
    rcases hat with ⟨h1, h2⟩ | ⟨h1, h2⟩
    · have hin : key ∈ vs := by
        obtain ⟨y, hy, e2⟩ := List.mem_map.1 h1
        rw [K.inj hkey ((h.keys y hy).trans (by rw [e2]))]
        exact hy
      rw [hh.2 hin]
      rw [show (setOf (H := Unit) (.lit (.bool true)) (vs.map (keyLit P k))).atKey kl (.lit (.bool false)) = .lit (.bool true) from h2] at hv
      unfold plainElem at hv
      split at hv <;> simp_all
    · have hno : ¬ key ∈ vs := fun hin => h1 (List.mem_map.2 ⟨key, hin, e1⟩)
      have hf : Maps.has (setOf (H := Unit) (.lit (.bool true)) (vs.map (keyLit P k))) kl = false := by
        cases hc : Maps.has (setOf (H := Unit) (.lit (.bool true)) (vs.map (keyLit P k))) kl
        · rfl
        · exact absurd (hh.1 hc) hno
      rw [hf]
      rw [show (setOf (H := Unit) (.lit (.bool true)) (vs.map (keyLit P k))).atKey kl (.lit (.bool false)) = .lit (.bool false) from h2] at hv
      unfold plainElem at hv
      split at hv <;> simp_all
  rw [hrun, hval]
end
theorem wpList_look_set_ok {P : Program} (w : World) {ops : Array Oper} {rest : List Oper} {o : Oper} {a : Act} {Q : Exit → Act → World → Prop}
    (hg : o.guard = none) (m x : Operand) (t : TypeId) (hop : o.op = Op.lookup t m x true) (k e : TypeId) (K : Keyed P k) (ht : P.underlying t = some (.map k e)) (he : P.underlying e = some .bool)
    (hz : (zeroValue e).run P w = .ok (.bool false) w) (b n : Nat) (vs : List Value) (hm : a.eval m = .map (some b)) (hS : BoolSet w P k e b n vs) (key : Value) (kl : Lit) (hx : a.eval x = key) (hkey : keyOf P k key = some kl)
    (hK : ∀ β : Bool, Hid (β = true ↔ key ∈ vs) → wpList P ops Q rest (a.put o.dst (.tuple #[.bool β, .bool β])) w) : wpList P ops Q (o :: rest) a w := by
  refine wpList_plain hg fun K' hK' => ?_
  obtain ⟨β, hrun, hβ⟩ := hS.look_ok K ht he hz hkey
  unfold Oper.wp
  simp [execOp, hop, hm, hx, hrun, Result.andThen]
  exact hK' _ _ (hK β hβ)
theorem pv_mem {x : Int × Int} {ps : List (Int × Int)} : pv x ∈ ps.map pv ↔ x ∈ ps := ⟨fun h => by obtain ⟨y, hy, e⟩ := List.mem_map.1 h; rw [← pv_inj e]; exact hy, fun h => List.mem_map.2 ⟨x, h, rfl⟩⟩
theorem pv_nodup {ps : List (Int × Int)} (h : ps.Nodup) : (ps.map pv).Nodup := List.pairwise_map.2 (h.imp fun hne e => hne (pv_inj e))
/-- Returns v; what was there stays. -/
def GB (v : Value) (w : World) (e : Ending) (w' : World) : Prop := e = .returned v ∧ w.grownBy w' none
theorem GB_of {v u : Value} {w w' : World} (h : u = v) (hg : w.grownBy w' none) : GB v w (.returned u) w' := ⟨by rw [h], hg⟩
/-- As many, and those of the first are in the second. -/
def subP (ps qs : List (Int × Int)) : Bool := decide (ps.length = qs.length) && ps.all fun p => decide (p ∈ qs)
theorem mapPB : Try.prog.underlying 171 = some (.map 172 4) := Try.underlying171
set_option maxHeartbeats 1000000 in
set_option maxRecDepth 100000 in
theorem mapsEqual_any (b1 b2 n1 n2 : Nat) (ps qs : List (Int × Int)) (w : World) (h1 : BoolSet w Try.prog 172 4 b1 n1 (ps.map pv)) (h2 : BoolSet w Try.prog 172 4 b2 n2 (qs.map pv)) (d1 : ps.Nodup) (d2 : qs.Nodup) :
    Calls Try.prog 192 #[.map (some b1), .map (some b2)] w (GB (.bool (subP ps qs)) w) := by
  have l1 := fun ty => h1.owns.len (t := 171) mapPB ty
  have l2 := fun ty => h2.owns.len (t := 171) mapPB ty
  rw [h1.size pairKeyed (pv_nodup d1), List.length_map] at l1
  rw [h2.size pairKeyed (pv_nodup d2), List.length_map] at l2
  have hb2 := h2.lt
  have H1 := Lib.hid h1
  have H2 := Lib.hid h2
  have own1 := h1.owns
  clear h1 h2 d1 d2
  obtain ⟨D1, hD1⟩ : ∃ D, D = setOf (H := Unit) (.lit (.bool true)) ((ps.map pv).map (keyLit Try.prog 172)) := ⟨_, rfl⟩
  rw [← hD1] at own1
  have HD := Lib.hid hD1
  clear hD1
  by_cases hsz : ps.length = qs.length
  · have HZ := Lib.hid hsz
    rw [hsz] at l1
    clear hsz
    have hnn : (((qs.length : Nat) : Int) != (qs.length : Nat)) = false := by simp
    go_enter Try.func192, Try.ntmps192
    go_wp2_with (first
      | (at_range; refine wpList_range_own _ rfl _ 171 rfl 172 4 pairKeyed mapPB (plainElem Try.prog 4) b1 n1 _ rfl own1 ?_; intro w0 hrg0 hg0 hs0)
      | go_in)
    go_frame
    go_loopw [16] (fun _ wr => ∃ (left : Lit → Bool) (cnt : Nat), wr.ranges Try.prog 172 (plainElem Try.prog 4) b1 w.heap.size n1 D1 left cnt ∧ w.grownBy wr none ∧ Hid (∀ p ∈ ps, left (keyLit Try.prog 172 (pv p)) = false → p ∈ qs))
      (fun _ wr => wr.rangeLeft b1 w.heap.size)
    case atStart =>
      refine ⟨_, _, hrg0, hg0, Lib.hid fun p hp hl => ?_⟩
      have hk := H1.out.keys (pv p) (List.mem_map.2 ⟨p, hp, rfl⟩)
      rw [HD.out, (H1.out.has pairKeyed hk).2 (List.mem_map.2 ⟨p, hp, rfl⟩)] at hl
      cases hl
    case round =>
      obtain ⟨left, cnt, hrg, hgw, G⟩ := hrel
      go_wp2_with (first
        | (at_next; refine wpList_next_ranges (β := Value) _ rfl _ rfl 172 pairKeyed (plainElem Try.prog 4) pv id (fun key _ hk => by obtain ⟨x, e, _⟩ := pv_of_key hk; exact ⟨x, e⟩) (fun v _ _ => ⟨v, rfl⟩) b1 w.heap.size n1 _ _ _ rfl hrg ?_ ?_)
        | go_in)
      · -- nothing is left
        intro _ hl0
        go_wp2
        go_ret
        refine GB_of (bool_eq ?_) hgw
        unfold subP
        rw [decide_eq_true HZ.out, Bool.true_and]
        exact (List.all_eq_true.2 fun p hp => decide_eq_true (G.out p hp (hl0 _))).symm
      · -- an entry has come
        intro x1 x2 c kl y yp w1 cnt1 hkey hlx hv hat hrg1 hlt hg1 hs1 hen
        rw [HD.out] at hat
        obtain ⟨hin, hy⟩ := H1.out.elem pairKeyed hkey hat
        have hx := pv_mem.1 hin
        obtain rfl : c = .bool true := by
          rw [hy] at hv
          unfold plainElem at hv
          split at hv <;> simp_all
        have hkl : keyLit Try.prog 172 (pv (x1, x2)) = kl := by simp [keyLit, hkey]
        have HK := Lib.hid hkey
        have HX := Lib.hid hx
        have HKL := Lib.hid hkl
        have hgw1 : w.grownBy w1 none := hgw.andThen hg1 (fun j hj => by cases hj; exact Or.inl (Nat.le_refl _))
        have hS2 : BoolSet w1 Try.prog 172 4 b2 n2 (qs.map pv) := H2.out.kept hgw1 (by simp)
        have HS2 := Lib.hid hS2
        clear hv hat hin hy hx hkl hkey hlx hS2
        try simp only [id] at hen ⊢
        unfold pv at hen ⊢
        dsimp only at hen ⊢
        by_cases hq : (x1, x2) ∈ qs
        · have HQ := Lib.hid hq
          clear hq
          go_wp2_with (first
            | (at_lookup; refine wpList_look_set_ok _ rfl _ _ 171 rfl 172 4 pairKeyed mapPB Try.underlying4 (zeroBool _) b2 n2 (qs.map pv) rfl (HS2.out.alloc _) (pv (x1, x2)) kl rfl HK.out ?_; intro β hβ; obtain rfl : β = true := hβ.out.2 (pv_mem.2 HQ.out))
            | go_in)
          have hgA : w1.grownBy (w1.alloc (.cells #[.int .i64 x1, .int .i64 x2] 172)) none := World.grownBy_alloc _ _ none
          go_roundw
          case rel => exact ⟨_, cnt1, hrg1.alloc _, hgw1.andThen hgA (fun j hj => by cases hj), Lib.hid fun p hp hl => by
            cases hlp : left (keyLit Try.prog 172 (pv p))
            · exact G.out p hp hlp
            · rw [hlp, Bool.true_and, Bool.not_eq_false'] at hl
              have e1 := WideAt.sameKey_eq hl
              have hk := H1.out.keys (pv p) (List.mem_map.2 ⟨p, hp, rfl⟩)
              rw [e1] at hk
              rw [pv_inj (pairKeyed.inj hk HK.out)]
              exact HQ.out⟩
          case measure => rw [(hrg1.alloc _).left_eq, hrg.left_eq]; exact hlt
        · have HQ := Lib.hid hq
          clear hq
          go_wp2_with (first
            | (at_lookup; refine wpList_look_set_ok _ rfl _ _ 171 rfl 172 4 pairKeyed mapPB Try.underlying4 (zeroBool _) b2 n2 (qs.map pv) rfl (HS2.out.alloc _) (pv (x1, x2)) kl rfl HK.out ?_; intro β hβ; obtain rfl : β = false := by cases β; rfl; exact absurd (pv_mem.1 (hβ.out.1 rfl)) HQ.out)
            | go_in)
          go_ret
          refine GB_of (bool_eq ?_) (hgw1.andThen (World.grownBy_alloc _ _ none) (fun j hj => by cases hj))
          unfold subP
          rw [List.all_eq_false.2 ⟨(x1, x2), HX.out, by simpa using HQ.out⟩, Bool.and_false]
  · have hne : ¬ (((ps.length : Nat) : Int) = (qs.length : Nat)) := fun e => hsz (by exact_mod_cast e)
    have hnb : (((ps.length : Nat) : Int) != (qs.length : Nat)) = true := by simpa using hne
    go_enter Try.func192, Try.ntmps192
    go_wp2
    go_ret
    exact GB_of (bool_eq (by unfold subP; rw [decide_eq_false hsz, Bool.false_and])) (World.grownBy.refl _ _)
end Go.Proofs.Ytacfelgilphppaa

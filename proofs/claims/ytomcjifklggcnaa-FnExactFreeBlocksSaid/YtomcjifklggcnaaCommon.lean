/- The blocks that two systems have in common: the program and the model. -/
import Derived.Test.YtomcjifklggcnaaRowb
import Derived.Test.YtomcjifklggcnaaFull
namespace Go.Proofs.Ytomcjifklggcnaa
open Go.RowKit Go.Maps
def commonL (bs cs : List Blk) : List Blk := bs.filter fun x => decide (x ∈ cs)
def commonF (v : Int) (bs : List Blk) (u : Int) (cs : List Blk) : List Blk × Int :=
  if isSysImpl v bs && isSysImpl u cs then (if v = u then (commonL bs cs, 0) else ([], 2)) else ([], 1)
/-- Two results: a list of blocks in new memory, and a code. -/
def RLC (p : List Blk × Int) (w : World) (e : Ending) (w' : World) : Prop := ∃ s, e = .returned (.tuple #[s, .int .i64 p.2]) ∧ ResR w' w.heap.size w'.heap.size s p.1 ∧ Below w.heap.size w w'
theorem run_makeMap_hint {P : Program} (t k e : TypeId) (kd : IntKind) (n : Int) (ht : P.underlying t = some (.map k e)) (w : World) :
    (Instr.makeMap t (some (.int kd n))).run P w = .ok (.map (some w.heap.size)) (w.alloc (.map #[] 0)) := by
  simp [Instr.makeMap, run_underlying ht]; rfl
theorem SB.slice {w : World} {s : Value} {bs : List Blk} (h : SB w s bs) : ∃ a c, s = .slice a bs.length c := by
  rcases h.2.2 with ⟨a0, c0, rfl, rfl⟩ | ⟨b, off, cap, rfl, _⟩ <;> exact ⟨_, _, rfl⟩

set_option maxRecDepth 100000 in
theorem CommonBlocks_no (v : Int) (s : Value) (bs : List Blk) (u : Int) (t : Value) (cs : List Blk) (w : World) (h : SB w s bs) (k : SB w t cs) (hn : (isSysImpl v bs && isSysImpl u cs) = false) :
    Calls Try.prog 57 #[.agg #[.int .i64 v, s], .agg #[.int .i64 u, t]] w (RLC ([], 1) w) := by
  have hs := h.slice
  have ht := k.slice
  have hc1 := fun W (hb : Below w.heap.size w W) => IsSystem_any v s bs W (h.below hb (Nat.le_refl _))
  have hc2 := fun W (hb : Below w.heap.size w W) => IsSystem_any u t cs W (k.below hb (Nat.le_refl _))
  have hB : Below w.heap.size w ((w.alloc (.cells #[.int .i64 v, s] 29)).alloc (.cells #[.int .i64 u, t] 29)) := ((Below.refl _ _).alloc (Nat.le_refl _) _).alloc (by simp) _
  clear h k
  have HC2 := Lib.hid hc2
  have HC1 := Lib.hid hc1
  clear hc1 hc2
  obtain ⟨a, c, rfl⟩ := hs
  obtain ⟨a', c', rfl⟩ := ht
  cases h1 : isSysImpl v bs with
  | false =>
    rw [h1] at HC1
    clear h1 hn
    go_enter Try.func57, Try.ntmps57
    go_wp2_with (go_at_call 20; refine (HC1.out _ hB).mono ?_; rintro e w1 ⟨rfl, hb1⟩)
    go_ret2
    exact ⟨_, rfl, .inl ⟨rfl, _, _, rfl⟩, hB.trans (hb1.mono (by simp; omega))⟩
  | true =>
    rw [h1] at HC1 hn
    have h2 : isSysImpl u cs = false := by simpa using hn
    rw [h2] at HC2
    clear h1 h2 hn
    go_enter Try.func57, Try.ntmps57
    go_wp2_with fail
    refine (HC1.out _ hB).mono ?_
    rintro e w1 ⟨rfl, hb1⟩
    have hB1 := hB.trans (hb1.mono (by simp; omega))
    have c0 := (hb1.cell (p := ⟨w.heap.size + 1, 0, none⟩) (by simp)).trans (by simp [go_sem] : _ = some (Value.int .i64 u))
    have c1 := (hb1.cell (p := ⟨w.heap.size + 1, 1, none⟩) (by simp)).trans (by simp [go_sem] : _ = some (Value.slice a' cs.length c'))
    clear hb1
    go_wp2_with (go_at_call 20; refine (HC2.out _ hB1).mono ?_; rintro e w2 ⟨rfl, hb2⟩)
    go_ret2
    exact ⟨_, rfl, .inl ⟨rfl, _, _, rfl⟩, hB1.trans (hb2.mono hB1.size)⟩


set_option maxRecDepth 100000 in
theorem CommonBlocks_ne (v : Int) (s : Value) (bs : List Blk) (u : Int) (t : Value) (cs : List Blk) (w : World) (h : SB w s bs) (k : SB w t cs) (h1 : isSysImpl v bs = true) (h2 : isSysImpl u cs = true) (hne : v ≠ u) :
    Calls Try.prog 57 #[.agg #[.int .i64 v, s], .agg #[.int .i64 u, t]] w (RLC ([], 2) w) := by
  have hs := h.slice
  have ht := k.slice
  have hc1 := fun W (hb : Below w.heap.size w W) => IsSystem_any v s bs W (h.below hb (Nat.le_refl _))
  have hc2 := fun W (hb : Below w.heap.size w W) => IsSystem_any u t cs W (k.below hb (Nat.le_refl _))
  have hB : Below w.heap.size w ((w.alloc (.cells #[.int .i64 v, s] 29)).alloc (.cells #[.int .i64 u, t] 29)) := ((Below.refl _ _).alloc (Nat.le_refl _) _).alloc (by simp) _
  clear h k
  have HC2 := Lib.hid hc2
  have HC1 := Lib.hid hc1
  rw [h1] at HC1
  rw [h2] at HC2
  clear hc1 hc2 h1 h2
  have hnb : (v != u) = true := by simp [hne]
  clear hne
  obtain ⟨a, c, rfl⟩ := hs
  obtain ⟨a', c', rfl⟩ := ht
  go_enter Try.func57, Try.ntmps57
  go_wp2_with fail
  refine (HC1.out _ hB).mono ?_
  rintro e w1 ⟨rfl, hb1⟩
  have hB1 := hB.trans (hb1.mono (by simp; omega))
  have hz1 := hb1.size
  simp at hz1
  have d0 := (hb1.cell (p := ⟨w.heap.size, 0, none⟩) (by simp; omega)).trans (by simp [go_sem] : _ = some (Value.int .i64 v))
  have c0 := (hb1.cell (p := ⟨w.heap.size + 1, 0, none⟩) (by simp)).trans (by simp [go_sem] : _ = some (Value.int .i64 u))
  have c1 := (hb1.cell (p := ⟨w.heap.size + 1, 1, none⟩) (by simp)).trans (by simp [go_sem] : _ = some (Value.slice a' cs.length c'))
  clear hb1
  go_wp2_with fail
  refine (HC2.out _ hB1).mono ?_
  rintro e w2 ⟨rfl, hb2⟩
  have e0 := (hb2.cell (p := ⟨w.heap.size, 0, none⟩) (by show w.heap.size < _; omega)).trans d0
  have f0 := (hb2.cell (p := ⟨w.heap.size + 1, 0, none⟩) (by show w.heap.size + 1 < _; omega)).trans c0
  clear d0 c0 c1
  go_wp2
  go_ret2
  exact ⟨_, rfl, .inl ⟨rfl, _, _, rfl⟩, hB1.trans (hb2.mono hB1.size)⟩

theorem filter_take_next {p : Blk → Bool} {bs : List Blk} {k : Nat} {x : Blk} (hk : k < bs.length) (hx : bs[k]? = some x) : (bs.take (k + 1)).filter p = (bs.take k).filter p ++ if p x then [x] else [] := by
  have e : bs[k] = x := by
    rw [List.getElem?_eq_getElem hk] at hx
    simpa using hx
  rw [take_next hk, e, List.filter_append]
  cases h : p x <;> simp [h]
theorem commonL_length (bs cs : List Blk) : (commonL bs cs).length ≤ bs.length := List.length_filter_le _ _
theorem commonL_wf {bs cs : List Blk} (h : ∀ x ∈ bs, WFB x) : ∀ x ∈ commonL bs cs, WFB x := fun x hx => h x ((List.mem_filter.1 hx).1)
theorem isMap : Try.prog.underlying 103 = some (.map 60 4) := Try.underlying103

theorem OwnR.row {w : World} {base : Nat} {v : Value} {bs : List Blk} (h : OwnR w base v bs) : ∀ r, v.ownBlock = some r → base ≤ r := fun r hr => by
  rcases h.2 with ⟨rfl, _⟩ | ⟨g, cap, cur, rfl, hb, _⟩
  · cases hr
  · cases hr; exact hb
end Go.Proofs.Ytomcjifklggcnaa

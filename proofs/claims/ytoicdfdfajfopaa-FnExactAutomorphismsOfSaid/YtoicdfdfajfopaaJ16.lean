
/- The model's LeaveDegrees. Own lists: an append in a drawn region; what is apart from a row that grows. A list of the call's own of rows of the call's own, which may grow. Plain facts on the points of blocks. Masks: plain. Masks of points of blocks: plain. Used images as bits; what a search leaves as it was. The model's table of third points: plain. A header is put to an own list of rows inside a drawn region. The state of the model's search for renumberings; a header is put to its rows. -/
import Derived.Test.YtoicdfdfajfopaaJ15
import Derived.Deep.RegionHeld3
import Derived.Lib.SlicesCompact
import Derived.Laws.BitsLemmas
import Derived.IntWalk
import Derived.Deep.RegionWith
namespace Go.Proofs.Ytoicdfdfajfopaa
open Go.RowKit Go.Maps
theorem step_append_int {w : World} {ops : Array Oper} {o : Oper} {a : Act} {K : Act → World → Prop} {Q : Exit → Act → World → Prop} {E : Prop} (hgd : o.guard = none) (s x : Operand)
    (ho : o.op = .call { callee := .builtin .append, args := #[s, x], argTypes := #[25, 25] })
    (base : Nat) (v : Value) (zs : List Int) (hs : a.eval s = v) (hown : OwnJ w base v zs) (b0 c : Nat) (y : Int) (hx : a.eval x = .slice (some ⟨b0, 0, none⟩) 1 c) (hy : w.cell? ⟨b0, 0, none⟩ = some (.int .i64 y)) (hl : zs.length ≤ 1100000) (hb : base ≤ w.heap.size)
    (h : ∀ (g cap : Nat) (w' : World), OwnJ w' base (.slice (some ⟨g, 0, none⟩) (zs.length + 1) cap) (zs ++ [y]) → w.grownBy w' v.ownBlock → K (a.put o.dst (.slice (some ⟨g, 0, none⟩) (zs.length + 1) cap)) w') :
    if Region.wanted o (yielded ops a.tmps) = true then Oper.wp Try.prog o a w K Q else E := by
  have hw : Region.wanted o (yielded ops a.tmps) = true := by simp [Region.wanted, hgd]
  rw [if_pos hw]
  obtain ⟨i0, hi, hz0, hz1, hz2⟩ := info_parts infoInt64
  obtain ⟨v', w', h1, h2, h3, _, _⟩ := run_append_own_at (P := Try.prog) w base 25 o.type 2 i0 _ 1 8 Try.underlying25 hi hz0 hz1 hz2 rfl (by decide) v zs.length (zs.map (Value.int .i64)) hown ⟨b0, 0, none⟩ 1 c [.int .i64 y] rfl (fun j u hj => by
    rw [addr_at, Nat.zero_add]
    match j, hj with
    | 0, hj => simp at hj; rw [← hj]; exact hy
    | j + 1, hj => simp at hj) (fun u hu => by
    simp at hu
    rw [hu]
    rfl) (by unfold maxLen; omega) (by omega) hb
  have h2' : OwnJ w' base v' (zs ++ [y]) := by unfold OwnJ; rw [List.length_append, List.length_singleton, List.map_append, List.map_singleton]; exact h2
  have hf : ∃ g cap, v' = .slice (some ⟨g, 0, none⟩) (zs.length + 1) cap := by
    rcases h2.2 with ⟨e, e2⟩ | ⟨g, cap, _, e, _⟩
    · omega
    · exact ⟨g, cap, e⟩
  obtain ⟨g, cap, rfl⟩ := hf
  unfold Oper.wp execOp
  simp only [ho, resolve, invoke, builtin, Sem.run_bind, Sem.run_pure, Result.andThen_ok, List.map_toArray, List.map_cons, List.map_nil, hs, hx, h1]
  exact h g cap w' h2' h3
theorem OwnJ.formL {W : World} {base : Nat} {u : Value} {zs : List Int} (h : OwnJ W base u zs) : ∃ a c, u = .slice a zs.length c := by
  rcases h.2 with ⟨rfl, h0⟩ | ⟨g, cap, cur, rfl, _⟩
  · rw [h0]; exact ⟨_, _, rfl⟩
  · exact ⟨_, _, rfl⟩
theorem lv_succ {n : Nat} {bs : List Blk} (h : isSysImpl (n : Int) bs = true) {k : Nat} (hk : k < n) :
    (lvL n bs).take (k + 1) = (lvL n bs).take k ++ [(n : Int) - 1 - 2 * ((idxI (k : Int) bs bs.length).length : Int)] := by
  have hl : k < (lvL n bs).length := by simpa [lvL] using hk
  rw [List.take_add_one, List.getElem?_eq_getElem hl]
  simp only [lvL, List.getElem_map, List.getElem_range, Option.toList_some]
  rw [lv_at h hk]
end Go.Proofs.Ytoicdfdfajfopaa

namespace Go.Proofs.Ytoicdfdfajfopaa
open Go.RowKit Go.Maps
theorem step_append_intG {w : World} {ops : Array Oper} {o : Oper} {a : Act} {K : Act → World → Prop} {Q : Exit → Act → World → Prop} {E : Prop} (hgd : o.guard = none) (s x : Operand)
    (ho : o.op = .call { callee := .builtin .append, args := #[s, x], argTypes := #[25, 25] })
    (base : Nat) (v : Value) (zs : List Int) (hs : a.eval s = v) (hown : OwnJ w base v zs) (b0 c : Nat) (y : Int) (hx : a.eval x = .slice (some ⟨b0, 0, none⟩) 1 c) (hy : w.cell? ⟨b0, 0, none⟩ = some (.int .i64 y)) (hl : zs.length ≤ 1100000) (hb : base ≤ w.heap.size)
    (h : ∀ (g cap : Nat) (w' : World), OwnJ w' base (.slice (some ⟨g, 0, none⟩) (zs.length + 1) cap) (zs ++ [y]) → w.grownBy w' v.ownBlock → (v.ownBlock = some g ∨ g = w.heap.size) → K (a.put o.dst (.slice (some ⟨g, 0, none⟩) (zs.length + 1) cap)) w') :
    if Region.wanted o (yielded ops a.tmps) = true then Oper.wp Try.prog o a w K Q else E := by
  have hw : Region.wanted o (yielded ops a.tmps) = true := by simp [Region.wanted, hgd]
  rw [if_pos hw]
  obtain ⟨i0, hi, hz0, hz1, hz2⟩ := info_parts infoInt64
  obtain ⟨v', w', h1, h2, h3, _, h4⟩ := run_append_own_at (P := Try.prog) w base 25 o.type 2 i0 _ 1 8 Try.underlying25 hi hz0 hz1 hz2 rfl (by decide) v zs.length (zs.map (Value.int .i64)) hown ⟨b0, 0, none⟩ 1 c [.int .i64 y] rfl (fun j u hj => by
    rw [addr_at, Nat.zero_add]
    match j, hj with
    | 0, hj => simp at hj; rw [← hj]; exact hy
    | j + 1, hj => simp at hj) (fun u hu => by
    simp at hu
    rw [hu]
    rfl) (by unfold maxLen; omega) (by omega) hb
  have h2' : OwnJ w' base v' (zs ++ [y]) := by unfold OwnJ; rw [List.length_append, List.length_singleton, List.map_append, List.map_singleton]; exact h2
  have hf : ∃ g cap, v' = .slice (some ⟨g, 0, none⟩) (zs.length + 1) cap := by
    rcases h2.2 with ⟨e, e2⟩ | ⟨g, cap, _, e, _⟩
    · omega
    · exact ⟨g, cap, e⟩
  obtain ⟨g, cap, rfl⟩ := hf
  unfold Oper.wp execOp
  simp only [ho, resolve, invoke, builtin, Sem.run_bind, Sem.run_pure, Result.andThen_ok, List.map_toArray, List.map_cons, List.map_nil, hs, hx, h1]
  refine h g cap w' h2' h3 ?_
  rcases h4 with h4 | h4
  · exact .inl (by rw [← h4]; rfl)
  · exact .inr (by simpa [Value.ownBlock] using h4)
theorem OwnJ.apartP {W W' : World} {base : Nat} {v : Value} {zs : List Int} {row : Option Nat} (h : OwnJ W base v zs) (hg : W.grownBy W' row) (ap : ∀ r, row = some r → v.ownBlock ≠ some r) : OwnJ W' base v zs := World.ownsRow.kept h hg (by
  cases row with
  | none =>
    cases hv : v.ownBlock with
    | none => exact .inl rfl
    | some g => exact .inr (by simp)
  | some r => exact .inr (ap r rfl))
theorem OwnJ.at0 {w : World} {base : Nat} {u : Value} {zs : List Int} (h : OwnJ w base u zs) (h0 : 0 < zs.length) (hl : zs.length ≤ 1100000) : ∃ g cap, u = .slice (some ⟨g, 0, none⟩) zs.length cap ∧ OwnAtI w g zs ∧ base ≤ g := by
  obtain ⟨a, c, rfl⟩ := h.slice
  rcases h.2 with ⟨hv, h1⟩ | ⟨g, cap, cur, hv, hb, hcur, _⟩
  · omega
  · cases hv
    obtain ⟨i1, _, i3, _⟩ := h.ints0 hl
    exact ⟨g, _, rfl, ⟨i3, i1, fun o => by simp [World.frozen?, hcur]⟩, hb⟩
end Go.Proofs.Ytoicdfdfajfopaa

namespace Go.Proofs.Ytoicdfdfajfopaa
open Go.RowKit Go.Maps
theorem OwnJ.blkP {w : World} {base : Nat} {v : Value} {zs : List Int} (h : OwnJ w base v zs) : ∀ r, v.ownBlock = some r → base ≤ r ∧ r < w.heap.size := fun r e => by
  rcases h.2 with ⟨hv, _⟩ | ⟨g, cap, cur, hv, hb, hcur, _⟩
  · rw [hv] at e; simp [Value.ownBlock] at e
  · rw [hv] at e
    obtain rfl : g = r := by simpa [Value.ownBlock] using e
    exact ⟨hb, (Array.getElem?_eq_some_iff.1 hcur).1⟩
theorem RowsV.blkP {w : World} {base : Nat} {v : Value} {hs : List Value} (h : RowsV w base v hs) : ∀ r, v.ownBlock = some r → base ≤ r ∧ r < w.heap.size := fun r e => by
  rcases h.2 with ⟨hv, _⟩ | ⟨g, cap, cur, hv, hb, hcur, _⟩
  · rw [hv] at e; simp [Value.ownBlock] at e
  · rw [hv] at e
    obtain rfl : g = r := by simpa [Value.ownBlock] using e
    exact ⟨hb, (Array.getElem?_eq_some_iff.1 hcur).1⟩
theorem RowsV.new0 (W : World) {base : Nat} (hb : base ≤ W.heap.size) : RowsV (W.alloc (.cells #[] 25)) base (.slice (some ⟨W.heap.size, 0, none⟩) 0 0) [] :=
  ⟨rfl, .inr ⟨W.heap.size, 0, #[], rfl, hb, World.alloc_heap_new W _, Nat.le_refl _, by unfold maxLen; omega, rfl, rfl⟩⟩
theorem OwnJ.baseP {w : World} {b b' : Nat} {u : Value} {zs : List Int} (h : OwnJ w b u zs) (hb : b' ≤ b) : OwnJ w b' u zs := ownsRow_base h hb
structure TabL (W : World) (lo : Nat) (u : Value) (us : List Value) (Rs : List (List Int)) : Prop where
  own : RowsV W lo u us
  len : us.length = Rs.length
  row : ∀ (k : Nat) (x : Value), us[k]? = some x → OwnJ W lo x (Rs[k]?.getD [])
  ne : ∀ x ∈ us, ∀ r, u.ownBlock = some r → x.ownBlock ≠ some r
  inc : ∀ (j k : Nat) (x y : Value), j ≠ k → us[j]? = some x → us[k]? = some y → ∀ r, x.ownBlock = some r → y.ownBlock ≠ some r
variable {W W' : World} {lo : Nat} {u : Value} {us : List Value} {Rs : List (List Int)}
theorem TabL.new0 (W : World) (hb : lo ≤ W.heap.size) : TabL (W.alloc (.cells #[] 25)) lo (.slice (some ⟨W.heap.size, 0, none⟩) 0 0) [] [] :=
  ⟨RowsV.new0 W hb, rfl, fun k x h => by simp at h, fun x h => by simp at h, fun j k x y _ h => by simp at h⟩
theorem TabL.kept (h : TabL W lo u us Rs) {row : Option Nat} (hg : W.grownBy W' row) (hu : ∀ r, row = some r → u.ownBlock ≠ some r) (hx : ∀ x ∈ us, ∀ r, row = some r → x.ownBlock ≠ some r) : TabL W' lo u us Rs :=
  ⟨h.own.kept hg (by cases row with
    | none => exact .inl rfl
    | some r => exact .inr (hu r rfl)), h.len, fun k x hk => (h.row k x hk).apartP hg (hx x (List.mem_of_getElem? hk)), h.ne, h.inc⟩
theorem TabL.below (h : TabL W lo u us Rs) (hb : Below W.heap.size W W') : TabL W' lo u us Rs :=
  h.kept (gb_below hb) (fun r e => by cases e) (fun _ _ r e => by cases e)
theorem TabL.snoc (h : TabL W lo u us Rs) {v : Value} {zs : List Int} (hv : OwnJ W lo v zs) (hvu : ∀ r, v.ownBlock = some r → u.ownBlock ≠ some r) (hvx : ∀ x ∈ us, ∀ r, v.ownBlock = some r → x.ownBlock ≠ some r)
    (hg : W.grownBy W' u.ownBlock) {u' : Value} (hV : RowsV W' lo u' (us ++ [v])) (hG : ∀ G, u'.ownBlock = some G → u.ownBlock = some G ∨ W.heap.size ≤ G) : TabL W' lo u' (us ++ [v]) (Rs ++ [zs]) := by
  have hk : ∀ x ∈ us, ∀ r, u.ownBlock = some r → x.ownBlock ≠ some r := h.ne
  have hvk : OwnJ W' lo v zs := hv.apartP hg (fun r e e2 => hvu r e2 e)
  refine ⟨hV, by simp [h.len], fun k x hx => ?_, fun x hx r e => ?_, fun j k x y hjk hx hy r e => ?_⟩
  · by_cases hlt : k < us.length
    · rw [List.getElem?_append_left hlt] at hx
      rw [List.getElem?_append_left (by rw [← h.len]; exact hlt)]
      exact (h.row k x hx).apartP hg (fun r e => h.ne x (List.mem_of_getElem? hx) r e)
    · have hkl : k = us.length := by
        have := (List.getElem?_eq_some_iff.1 hx).1
        simp at this; omega
      subst hkl
      rw [List.getElem?_append_right (Nat.le_refl _), Nat.sub_self] at hx
      rw [h.len, List.getElem?_append_right (Nat.le_refl _), Nat.sub_self]
      simp at hx
      subst hx
      exact hvk
  · have hxb : ∀ r, x.ownBlock = some r → r < W.heap.size := fun r e => by
      rcases List.mem_append.1 hx with hx | hx
      · obtain ⟨k, hk⟩ := List.mem_iff_getElem?.1 hx
        exact ((h.row k x hk).blkP r e).2
      · rw [List.mem_singleton] at hx; subst hx; exact (hv.blkP r e).2
    intro e2
    rcases hG r e with e3 | e3
    · rcases List.mem_append.1 hx with hx | hx
      · exact h.ne x hx r e3 e2
      · rw [List.mem_singleton] at hx; subst hx; exact hvu r e2 e3
    · have := hxb r e2; omega
  · have at_ : ∀ m z, (us ++ [v])[m]? = some z → (m < us.length ∧ us[m]? = some z) ∨ (m = us.length ∧ z = v) := fun m z hz => by
      by_cases hlt : m < us.length
      · rw [List.getElem?_append_left hlt] at hz; exact .inl ⟨hlt, hz⟩
      · have hl := (List.getElem?_eq_some_iff.1 hz).1
        simp at hl
        have hm : m = us.length := by omega
        subst hm
        rw [List.getElem?_append_right (Nat.le_refl _), Nat.sub_self] at hz
        simp at hz
        exact .inr ⟨rfl, hz.symm⟩
    rcases at_ j x hx with ⟨hj, hx2⟩ | ⟨hj, hx2⟩
    · rcases at_ k y hy with ⟨hk2, hy2⟩ | ⟨hk2, hy2⟩
      · exact h.inc j k x y hjk hx2 hy2 r e
      · intro e2; rw [hy2] at e2; exact hvx x (List.mem_of_getElem? hx2) r e2 e
    · rcases at_ k y hy with ⟨hk2, hy2⟩ | ⟨hk2, hy2⟩
      · rw [hx2] at e; exact hvx y (List.mem_of_getElem? hy2) r e
      · omega
/-- A row that was made behind the list is put at its end. -/
theorem TabL.snocB {V : World} (h : TabL V lo u us Rs) (hb : Below V.heap.size V W) {v : Value} {zs : List Int} (hv : OwnJ W V.heap.size v zs) (hlo : lo ≤ V.heap.size) (hg : W.grownBy W' u.ownBlock) {u' : Value} (hV : RowsV W' lo u' (us ++ [v])) (hG : ∀ G, u'.ownBlock = some G → u.ownBlock = some G ∨ W.heap.size ≤ G) : TabL W' lo u' (us ++ [v]) (Rs ++ [zs]) := by
  refine (h.below hb).snoc (hv.baseP hlo) (fun r e e2 => ?_) (fun x hx r e e2 => ?_) hg hV hG
  · have := (hv.blkP r e).1; have := (h.own.blkP r e2).2; omega
  · obtain ⟨k, hk⟩ := List.mem_iff_getElem?.1 hx
    have := (hv.blkP r e).1; have := ((h.row k x hk).blkP r e2).2; omega
/-- A number of a row is written. -/
theorem TabL.sst {k g n cap j : Nat} (h : TabL W lo u us Rs) (hx : us[k]? = some (.slice (some ⟨g, 0, none⟩) n cap)) (hj : j < (Rs[k]?.getD []).length) (y : Int) :
    TabL (W.setCell ⟨g, j, none⟩ (.int .i64 y)) lo u us (Rs.set k ((Rs[k]?.getD []).set j y)) ∧ W.grownBy (W.setCell ⟨g, j, none⟩ (.int .i64 y)) (some g) := by
  have ho := h.row k _ hx
  obtain ⟨s1, s2⟩ := ho.setT (i := j) (x := y) hj
  have hkl : k < us.length := (List.getElem?_eq_some_iff.1 hx).1
  refine ⟨⟨h.own.kept s2 (.inr fun e => h.ne _ (List.mem_of_getElem? hx) g e rfl), by rw [List.length_set]; exact h.len, fun m z hz => ?_, h.ne, h.inc⟩, s2⟩
  by_cases e : m = k
  · subst e
    rw [hx] at hz
    cases hz
    rw [List.getElem?_set_self (by rw [← h.len]; exact hkl)]
    exact s1
  · rw [List.getElem?_set_ne (fun e2 => e e2.symm)]
    exact (h.row m z hz).apartP s2 (fun r hr => by cases hr; exact h.inc k m _ z (fun e2 => e e2.symm) hx hz g rfl)
/-- A row is put in the place of another one that grew into it. -/
theorem TabL.put {k G m c g : Nat} {x : Value} {n cap : Nat} {zs : List Int} (h : TabL W lo (.slice (some ⟨G, 0, none⟩) m c) us Rs) (hx : us[k]? = some x) (hg : W.grownBy W' x.ownBlock) (ho : OwnJ W' lo (.slice (some ⟨g, 0, none⟩) n cap) zs) (hG : x.ownBlock = some g ∨ W.heap.size ≤ g) :
    TabL (W'.setCell ⟨G, k, none⟩ (.slice (some ⟨g, 0, none⟩) n cap)) lo (.slice (some ⟨G, 0, none⟩) m c) (us.set k (.slice (some ⟨g, 0, none⟩) n cap)) (Rs.set k zs) ∧ W'.grownBy (W'.setCell ⟨G, k, none⟩ (.slice (some ⟨g, 0, none⟩) n cap)) (some G) := by
  have hxm := List.mem_of_getElem? hx
  have hkl : k < us.length := (List.getElem?_eq_some_iff.1 hx).1
  have hGb := h.own.blkP G rfl
  have hV : RowsV W' lo (.slice (some ⟨G, 0, none⟩) m c) us := h.own.kept hg (by
    cases hxo : x.ownBlock with
    | none => exact .inl rfl
    | some r => exact .inr fun e => h.ne x hxm G rfl (by rw [hxo, ← e]; rfl))
  obtain ⟨s1, s2⟩ := hV.setT (i := k) (x := .slice (some ⟨g, 0, none⟩) n cap)
  have hne : g ≠ G := by
    rcases hG with e | e
    · intro h0; exact h.ne x hxm G rfl (h0 ▸ e)
    · omega
  have hap : ∀ j z, j ≠ k → us[j]? = some z → z.ownBlock ≠ some g := fun j z hjk hz => by
    rcases hG with e | e
    · exact h.inc k j x z (Ne.symm hjk) hx hz g e
    · intro e2; have := ((h.row j z hz).blkP g e2).2; omega
  have at_ : ∀ j z, (us.set k (.slice (some ⟨g, 0, none⟩) n cap))[j]? = some z → (j = k ∧ z = .slice (some ⟨g, 0, none⟩) n cap) ∨ (j ≠ k ∧ us[j]? = some z) := fun j z hz => by
    by_cases e : j = k
    · subst e
      rw [List.getElem?_set_self hkl] at hz
      exact .inl ⟨rfl, (Option.some.inj hz).symm⟩
    · rw [List.getElem?_set_ne (fun e2 => e e2.symm)] at hz
      exact .inr ⟨e, hz⟩
  refine ⟨⟨s1, by rw [List.length_set, List.length_set]; exact h.len, fun j z hz => ?_, fun z hz r e => ?_, fun j q y z hjq hy hz r e => ?_⟩, s2⟩
  · rcases at_ j z hz with ⟨rfl, rfl⟩ | ⟨hjk, hz⟩
    · rw [List.getElem?_set_self (by rw [← h.len]; exact hkl)]
      exact ho.apartP s2 (fun r hr => by cases hr; simp [Value.ownBlock]; exact hne)
    · rw [List.getElem?_set_ne (fun e2 => hjk e2.symm)]
      refine ((h.row j z hz).apartP hg (fun r hr => ?_)).apartP s2 (fun r hr => ?_)
      · exact h.inc k j x z (Ne.symm hjk) hx hz r hr
      · cases hr; exact h.ne z (List.mem_of_getElem? hz) G rfl
  · obtain ⟨j, hj⟩ := List.mem_iff_getElem?.1 hz
    have e : G = r := by simpa [Value.ownBlock] using e
    subst e
    rcases at_ j z hj with ⟨rfl, rfl⟩ | ⟨_, hz⟩
    · simp [Value.ownBlock]; exact hne
    · exact h.ne z (List.mem_of_getElem? hz) G rfl
  · rcases at_ j y hy with ⟨hj2, hy2⟩ | ⟨hjk, hy2⟩
    · rcases at_ q z hz with ⟨hq2, _⟩ | ⟨hqk, hz2⟩
      · omega
      · have e : g = r := by rw [hy2] at e; simpa [Value.ownBlock] using e
        subst e
        exact hap q z hqk hz2
    · rcases at_ q z hz with ⟨hq2, hz2⟩ | ⟨hqk, hz2⟩
      · intro e2
        have e2 : g = r := by rw [hz2] at e2; simpa [Value.ownBlock] using e2
        subst e2
        exact hap j y hjk hy2 e
      · exact h.inc j q y z hjq hy2 hz2 r e
/-- A header of the list, and the row behind it. -/
theorem TabL.at_ (h : TabL W lo u us Rs) {k : Nat} (hk : k < Rs.length) (h0 : 0 < (Rs[k]?.getD []).length) (hl : (Rs[k]?.getD []).length ≤ 1100000) : ∃ G c g cap, u = .slice (some ⟨G, 0, none⟩) Rs.length c ∧ lo ≤ G ∧ W.cell? ⟨G, k, none⟩ = some (.slice (some ⟨g, 0, none⟩) (Rs[k]?.getD []).length cap) ∧ W.frozen? ⟨G, k, none⟩ = false ∧ us[k]? = some (.slice (some ⟨g, 0, none⟩) (Rs[k]?.getD []).length cap) ∧ OwnAtI W g (Rs[k]?.getD []) ∧ lo ≤ g := by
  have hku : k < us.length := by rw [h.len]; exact hk
  obtain ⟨x, hx⟩ : ∃ x, us[k]? = some x := ⟨_, List.getElem?_eq_getElem hku⟩
  obtain ⟨G, c, hu⟩ := h.own.form (by omega)
  obtain ⟨g, cap, rfl, h1, h2⟩ := (h.row k x hx).at0 h0 hl
  have hV := h.own
  rw [hu] at hV
  obtain ⟨a1, a2, a3, a4, a5⟩ := hV.at_ hx
  exact ⟨G, c, g, cap, by rw [hu, h.len], a2, a1, a5, hx, h1, h2⟩
theorem TabL.ssr (h : TabL W lo u us Rs) (h0 : 0 < Rs.length) (hr : ∀ k, k < Rs.length → 0 < (Rs[k]?.getD []).length ∧ (Rs[k]?.getD []).length ≤ 1100000) : ∃ G c gs caps, u = .slice (some ⟨G, 0, none⟩) Rs.length c ∧ lo ≤ G ∧ SSR W lo G gs caps Rs.length (fun k => Rs[k]?.getD []) := by
  obtain ⟨G, c, hu⟩ := h.own.form (by rw [h.len]; exact h0)
  have hG := h.own.blkP G (by rw [hu]; rfl)
  have H : ∀ k, ∃ g cap, k < Rs.length → W.cell? ⟨G, k, none⟩ = some (.slice (some ⟨g, 0, none⟩) (Rs[k]?.getD []).length cap) ∧ us[k]? = some (.slice (some ⟨g, 0, none⟩) (Rs[k]?.getD []).length cap) ∧ OwnAtI W g (Rs[k]?.getD []) ∧ lo ≤ g := fun k => by
    by_cases hk : k < Rs.length
    · obtain ⟨G', c', g, cap, e, _, a1, _, a2, a3, a4⟩ := h.at_ hk (hr k hk).1 (hr k hk).2
      rw [hu] at e
      simp at e
      obtain ⟨rfl, _⟩ := e
      exact ⟨g, cap, fun _ => ⟨a1, a2, a3, a4⟩⟩
    · exact ⟨0, 0, fun h => absurd h hk⟩
  refine ⟨G, c, fun k => (H k).choose, fun k => (H k).choose_spec.choose, by rw [hu, h.len], hG.1, fun k hk => ?_, fun k hk => ?_, fun k hk e => ?_, fun j k hjk hk e => ?_, fun k hk => ?_, hG.2⟩
  · exact ((H k).choose_spec.choose_spec hk).1
  · exact ((H k).choose_spec.choose_spec hk).2.2.1
  · exact h.ne _ (List.mem_of_getElem? ((H k).choose_spec.choose_spec hk).2.1) G (by rw [hu]; rfl) (by simp [Value.ownBlock]; exact e)
  · exact h.inc j k _ _ (by omega) ((H j).choose_spec.choose_spec (by omega)).2.1 ((H k).choose_spec.choose_spec hk).2.1 _ rfl (by simp [Value.ownBlock]; exact e.symm)
  · exact ((H k).choose_spec.choose_spec hk).2.2.2
end Go.Proofs.Ytoicdfdfajfopaa

namespace Go.Proofs.Ytoicdfdfajfopaa
open Go.Lib
/-- All points in blocks, block by block. -/
def ptsAll (bs : List Blk) : List Int := bs.flatMap fun x => [x.a, x.b, x.c]
/-- The points in blocks, ascending. -/
def ptsT (v : Int) (bs : List Blk) : List Int := ((List.range v.toNat).map fun (k : Nat) => (k : Int)).filter fun p => bs.any fun x => hasB x p
theorem asc_unique {l m : List Int} (h1 : l.Pairwise (· < ·)) (h2 : m.Pairwise (· < ·)) (h : ∀ x, x ∈ l ↔ x ∈ m) : l = m := by
  induction l generalizing m with
  | nil =>
    cases m with
    | nil => rfl
    | cons y m => exact absurd ((h y).2 (by simp)) (by simp)
  | cons x l ih =>
    cases m with
    | nil => exact absurd ((h x).1 (by simp)) (by simp)
    | cons y m =>
      rw [List.pairwise_cons] at h1 h2
      have e : x = y := by
        have a := (h x).1 (by simp)
        have b := (h y).2 (by simp)
        rcases List.mem_cons.1 a with a | a
        · exact a
        · rcases List.mem_cons.1 b with b | b
          · exact b.symm
          · have := h1.1 y b
            have := h2.1 x a
            omega
      subst e
      rw [ih h1.2 h2.2 (fun z => ?_)]
      have hz := h z
      simp only [List.mem_cons] at hz
      constructor
      · intro hm
        rcases hz.1 (.inr hm) with rfl | hq
        · have := h1.1 z hm; omega
        · exact hq
      · intro hm
        rcases hz.2 (.inr hm) with rfl | hq
        · have := h2.1 z hm; omega
        · exact hq
theorem compact_mem {zs : List Int} {x : Int} : x ∈ compact zs ↔ x ∈ zs := by
  unfold compact compactUpTo
  rw [List.mem_map]
  constructor
  · rintro ⟨j, hj, rfl⟩
    have hj := List.mem_range.1 (List.mem_filter.1 hj).1
    rw [getElem!_pos zs.toArray j (by simpa using hj)]
    simp
  · intro hx
    obtain ⟨j, hj, rfl⟩ := List.mem_iff_getElem.1 hx
    clear hx
    induction j with
    | zero => exact ⟨0, List.mem_filter.2 ⟨List.mem_range.2 hj, by simp [keeps]⟩, by rw [getElem!_pos zs.toArray 0 (by simpa using hj)]; simp⟩
    | succ j ih =>
      by_cases hk : keeps zs.toArray (j + 1) = true
      · exact ⟨j + 1, List.mem_filter.2 ⟨List.mem_range.2 hj, hk⟩, by rw [getElem!_pos zs.toArray (j + 1) (by simpa using hj)]; simp⟩
      · obtain ⟨i, h1, h2⟩ := ih (by omega)
        refine ⟨i, h1, h2.trans ?_⟩
        rw [Bool.not_eq_true] at hk
        simp only [keeps] at hk
        rw [getElem!_pos zs.toArray (j + 1) (by simpa using hj), getElem!_pos zs.toArray (j + 1 - 1) (by simp; omega)] at hk
        simp at hk
        exact hk.symm
theorem compact_asc {zs : List Int} (h : zs.Pairwise (· ≤ ·)) : (compact zs).Pairwise (· < ·) := by
  unfold compact compactUpTo
  rw [List.pairwise_map]
  have hr : (List.range zs.length).Pairwise (· < ·) := List.pairwise_lt_range
  refine ((hr.filter (keeps zs.toArray)).imp_of_mem ?_)
  intro i j hi hj hlt
  have li := List.mem_range.1 (List.mem_filter.1 hi).1
  have lj := List.mem_range.1 (List.mem_filter.1 hj).1
  have hk := (List.mem_filter.1 hj).2
  simp only [keeps] at hk
  rw [getElem!_pos zs.toArray i (by simpa using li), getElem!_pos zs.toArray j (by simpa using lj)]
  rw [getElem!_pos zs.toArray j (by simpa using lj), getElem!_pos zs.toArray (j - 1) (by simp; omega)] at hk
  simp at hk ⊢
  have e0 : j ≠ 0 := by omega
  have hp := List.pairwise_iff_getElem.1 h
  have h1 : zs[i] ≤ zs[j - 1] := by
    by_cases e : i = j - 1
    · simp [e]
    · exact hp i (j - 1) li (by omega) (by omega)
  have h2 := hp (j - 1) j (by omega) lj (by omega)
  have h3 : zs[j] ≠ zs[j - 1] := by
    rcases hk with hk | hk
    · exact absurd hk e0
    · exact hk
  omega
theorem ptsAll_mem {bs : List Blk} {p : Int} : p ∈ ptsAll bs ↔ bs.any (fun x => hasB x p) = true := by
  simp only [ptsAll, List.mem_flatMap, List.any_eq_true, hasB, List.mem_cons, List.not_mem_nil, or_false, Bool.or_eq_true, decide_eq_true_eq]
  constructor
  · rintro ⟨x, hx, h⟩
    exact ⟨x, hx, by rcases h with rfl | rfl | rfl <;> simp⟩
  · rintro ⟨x, hx, h⟩
    exact ⟨x, hx, by rcases h with (rfl | rfl) | rfl <;> simp⟩
theorem ptsT_mem {v : Int} {bs : List Blk} (h : ∀ x ∈ bs, goodB v x = true) {p : Int} : p ∈ ptsT v bs ↔ p ∈ ptsAll bs := by
  rw [ptsAll_mem, ptsT, List.mem_filter, List.mem_map]
  constructor
  · exact fun hp => hp.2
  · intro hp
    refine ⟨⟨p.toNat, List.mem_range.2 ?_, ?_⟩, hp⟩
    all_goals
      obtain ⟨x, hx, hh⟩ := List.any_eq_true.1 hp
      have hg := goodB_iff.1 (h x hx)
      simp only [hasB, Bool.or_eq_true, decide_eq_true_eq] at hh
      rcases hh with (rfl | rfl) | rfl <;> omega
theorem ptsT_asc (v : Int) (bs : List Blk) : (ptsT v bs).Pairwise (· < ·) := by
  unfold ptsT
  refine List.Pairwise.filter _ ?_
  rw [List.pairwise_map]
  exact List.pairwise_lt_range.imp fun {a b} h => by omega
theorem pts_same {v : Int} {bs : List Blk} (h : ∀ x ∈ bs, goodB v x = true) : compact ((ptsAll bs).mergeSort fun x y => decide (x ≤ y)) = ptsT v bs := by
  have hp := List.mergeSort_perm (ptsAll bs) (fun x y => decide (x ≤ y))
  have hs : ((ptsAll bs).mergeSort fun x y => decide (x ≤ y)).Pairwise (· ≤ ·) := by
    have := List.pairwise_mergeSort (le := fun (x y : Int) => decide (x ≤ y)) (by intro a b c; simp; omega) (by intro a b; simp; omega) (ptsAll bs)
    exact this.imp fun {a b} h => by simpa using h
  refine asc_unique (compact_asc hs) (ptsT_asc v bs) fun x => ?_
  rw [compact_mem, hp.mem_iff, ptsT_mem h]
theorem ptsT_len (v : Int) (bs : List Blk) (hv : v ≤ 15) : (ptsT v bs).length ≤ 15 := by
  unfold ptsT
  refine Nat.le_trans (List.length_filter_le _ _) ?_
  simp; omega
theorem ptsAll_len (bs : List Blk) : (ptsAll bs).length = 3 * bs.length := by
  induction bs with
  | nil => rfl
  | cons x r ih => simp [ptsAll] at ih ⊢; omega
def ptsF (v : Int) (bo bi : List Blk) : List Int × Int := if trdB v bo bi then (ptsT v bo, 0) else ([], 1)
end Go.Proofs.Ytoicdfdfajfopaa

namespace Go.Proofs.Ytoicdfdfajfopaa
open Go.RowKit Go.Maps
def msk (L : List Int) : Nat := L.foldl (fun m d => m ||| 2 ^ d.toNat) 0
theorem msk_snoc (L : List Int) (d : Int) : msk (L ++ [d]) = msk L ||| 2 ^ d.toNat := by simp [msk, List.foldl_append]
theorem foldM_test (t : Nat) : ∀ (L : List Int) (m : Nat), (L.foldl (fun m d => m ||| 2 ^ d.toNat) m).testBit t = (m.testBit t || L.any fun d => decide (d.toNat = t))
  | [], m => by simp
  | d :: L, m => by
    rw [List.foldl_cons, foldM_test t L, Nat.testBit_or, Nat.testBit_two_pow, List.any_cons, Bool.or_assoc]
theorem msk_test (L : List Int) (t : Nat) : (msk L).testBit t = L.any fun d => decide (d.toNat = t) := by
  rw [msk, foldM_test]; simp
end Go.Proofs.Ytoicdfdfajfopaa

namespace Go.Proofs.Ytoicdfdfajfopaa
open Go.RowKit
def ptsB (x : Blk) : List Int := [x.a, x.b, x.c]
def allP (L : List Blk) : List Int := L.flatMap ptsB
/-- Good blocks of at most 15 points. -/
def okB (x : Blk) : Prop := 0 ≤ x.a ∧ x.a < x.b ∧ x.b < x.c ∧ x.c < 15
theorem okB_small {x : Blk} (h : okB x) : ∀ z ∈ ptsB x, 0 ≤ z ∧ z < 15 := fun z hz => by
  obtain ⟨h1, h2, h3, h4⟩ := h
  simp only [ptsB, List.mem_cons, List.not_mem_nil, or_false] at hz
  omega
theorem allP_small {L : List Blk} (h : ∀ x ∈ L, okB x) : ∀ z ∈ allP L, 0 ≤ z ∧ z < 15 := fun z hz => by
  obtain ⟨x, hx, hz⟩ := List.mem_flatMap.1 hz
  exact okB_small (h x hx) z hz
def mkB (x : Blk) : Nat := 2 ^ x.a.toNat + 2 ^ x.b.toNat + 2 ^ x.c.toNat
theorem pow3 : ∀ a b c : Fin 15, a < b → b < c → 2 ^ a.val + 2 ^ b.val + 2 ^ c.val = 2 ^ a.val ||| 2 ^ b.val ||| 2 ^ c.val := by decide +kernel
theorem mkB_msk {x : Blk} (h : okB x) : mkB x = msk (ptsB x) := by
  obtain ⟨h1, h2, h3, h4⟩ := h
  have := pow3 ⟨x.a.toNat, by omega⟩ ⟨x.b.toNat, by omega⟩ ⟨x.c.toNat, by omega⟩ (by simp [Fin.lt_def]; omega) (by simp [Fin.lt_def]; omega)
  simpa [mkB, msk, ptsB] using this
theorem msk_lt15 {L : List Int} (h : ∀ d ∈ L, 0 ≤ d ∧ d < 15) : msk L < 32768 := by
  suffices ∀ (L : List Int) (m : Nat), m < 32768 → (∀ d ∈ L, 0 ≤ d ∧ d < 15) → L.foldl (fun m d => m ||| 2 ^ d.toNat) m < 32768 from this L 0 (by decide) h
  intro L
  induction L with
  | nil => exact fun m hm _ => hm
  | cons d L ih =>
    intro m hm hd
    rw [List.foldl_cons]
    have hq := hd d (List.mem_cons_self)
    refine ih _ ?_ fun e he => hd e (List.mem_cons_of_mem _ he)
    refine Nat.or_lt_two_pow (n := 15) hm ?_
    exact Nat.pow_lt_pow_right (by decide) (by omega)
theorem msk_mem {L : List Int} (h : ∀ d ∈ L, 0 ≤ d) {t : Nat} : (msk L).testBit t = true ↔ (t : Int) ∈ L := by
  rw [msk_test, List.any_eq_true]
  constructor
  · rintro ⟨e, he, hq⟩
    have := h e he
    simp at hq
    have : e = (t : Int) := by omega
    exact this ▸ he
  · intro ht
    exact ⟨_, ht, by simp⟩
theorem msk_append (L M : List Int) : msk (L ++ M) = msk L ||| msk M := by
  apply Nat.eq_of_testBit_eq
  intro t
  rw [Nat.testBit_or, msk_test, msk_test, msk_test, List.any_append]
theorem bits15 {x y : Nat} (hx : x < 32768) (hy : y < 32768) : bits .and .i64 (x : Int) (y : Int) = ((x &&& y : Nat) : Int) ∧ bits .or .i64 (x : Int) (y : Int) = ((x ||| y : Nat) : Int) := by
  have h := bits_nat .i64 63 (by decide) (fun n h0 h1 => IntWalk.i64_in _ (by omega)) x y (by omega) (by omega)
  exact h
end Go.Proofs.Ytoicdfdfajfopaa

namespace Go.Proofs.Ytoicdfdfajfopaa
open Go.RowKit Go.Maps
def mkN (l : List Nat) : Nat := l.foldl (fun m i => m ||| 2 ^ i) 0
theorem mkN_snoc (l : List Nat) (i : Nat) : mkN (l ++ [i]) = mkN l ||| 2 ^ i := by simp [mkN, List.foldl_append]
theorem mkF_test (t : Nat) : ∀ (l : List Nat) (m : Nat), (l.foldl (fun m i => m ||| 2 ^ i) m).testBit t = (m.testBit t || decide (t ∈ l))
  | [], m => by simp
  | d :: l, m => by
    rw [List.foldl_cons, mkF_test t l, Nat.testBit_or, Nat.testBit_two_pow]
    by_cases h : d = t
    · subst h; simp
    · simp [h, show ¬ t = d from fun e => h e.symm]
theorem mkN_test (l : List Nat) (t : Nat) : (mkN l).testBit t = decide (t ∈ l) := by rw [mkN, mkF_test]; simp
theorem mkN_lt {l : List Nat} (h : ∀ i ∈ l, i < 15) : mkN l < 32768 := by
  have : mkN l < 2 ^ 15 := Nat.lt_pow_two_of_testBit _ fun i hi => by
    rw [mkN_test]
    simp
    intro hm
    have := h i hm
    omega
  simpa using this
theorem mkN_bit {l : List Nat} (h : ∀ i ∈ l, i < 15) (k : Nat) : bits .and .i64 ((mkN l : Int) / 2 ^ k) 1 = if k ∈ l then 1 else 0 := by
  have e := mkN_test l k
  rw [Nat.testBit_eq_decide_div_mod_eq] at e
  have hl : mkN l / 2 ^ k < 32768 := Nat.lt_of_le_of_lt (Nat.div_le_self _ _) (mkN_lt h)
  have h1 := (bits15 hl (y := 1) (by decide)).1
  rw [show (mkN l : Int) / 2 ^ k = ((mkN l / 2 ^ k : Nat) : Int) by simp, show (1 : Int) = ((1 : Nat) : Int) by rfl, h1, Nat.and_one_is_mod]
  by_cases hk : k ∈ l
  · rw [decide_eq_true hk, decide_eq_true_eq] at e
    rw [if_pos hk, e]
  · rw [decide_eq_false hk, decide_eq_false_iff_not] at e
    rw [if_neg hk]
    omega
theorem mkN_or {l : List Nat} (h : ∀ i ∈ l, i < 15) {k : Nat} (hk : k < 15) : bits .or .i64 (mkN l : Int) (2 ^ k) = (mkN (l ++ [k]) : Int) := by
  have h2 : 2 ^ k < 32768 := Nat.lt_of_lt_of_le (Nat.pow_lt_pow_right (by decide) hk) (by decide)
  have h1 := (bits15 (mkN_lt h) h2).2
  rw [mkN_snoc, ← h1]
  simp
/-- But for block P and the row u nothing has turned; the new row is the old one or new memory. -/
structure Kps (P : Nat) (u u' : Value) (W W' : World) : Prop where
  os : W'.os = W.os
  tape : W'.tape = W.tape
  output : W'.output = W.output
  size : W.heap.size ≤ W'.heap.size
  same : ∀ b, b < W.heap.size → b ≠ P → u.ownBlock ≠ some b → W'.heap[b]? = W.heap[b]?
  nxt : ∀ r, u'.ownBlock = some r → u.ownBlock = some r ∨ W.heap.size ≤ r
section
variable {P : Nat} {u u1 u2 : Value} {W W1 W2 : World}
theorem Kps.refl (P : Nat) (u : Value) (W : World) : Kps P u u W W := ⟨rfl, rfl, rfl, Nat.le_refl _, fun _ _ _ _ => rfl, fun _ h => .inl h⟩
theorem Kps.trans (h : Kps P u u1 W W1) (k : Kps P u1 u2 W1 W2) : Kps P u u2 W W2 := by
  have hs := h.size
  refine ⟨k.os.trans h.os, k.tape.trans h.tape, k.output.trans h.output, Nat.le_trans h.size k.size, fun b hb h1 h2 => ?_, fun r hr => ?_⟩
  · refine (k.same b (by omega) h1 fun e => ?_).trans (h.same b hb h1 h2)
    rcases h.nxt b e with e | e
    · exact h2 e
    · omega
  · rcases k.nxt r hr with e | e
    · exact h.nxt r e
    · exact .inr (by omega)
theorem Kps.of_below (hb : Below W.heap.size W W1) (P : Nat) (u : Value) : Kps P u u W W1 := ⟨hb.os, hb.tape, hb.output, hb.size, fun b h _ _ => hb.block b h, fun _ h => .inl h⟩
theorem Kps.below (h : Kps P u u1 W W1) {lo : Nat} (hP : lo ≤ P) (hu : ∀ r, u.ownBlock = some r → lo ≤ r) (hl : lo ≤ W.heap.size) : Below lo W W1 :=
  ⟨h.os, h.tape, h.output, h.size, fun b hb => h.same b (by omega) (by omega) fun e => by have := hu b e; omega⟩
theorem Kps.of_setCell (P : Nat) (u : Value) (W : World) (o : Nat) (v : Value) : Kps P u u W (W.setCell ⟨P, o, none⟩ v) :=
  ⟨rfl, rfl, rfl, by simp [World.setCell], fun b _ h1 _ => Below.heap_setCell _ _ _ _ h1, fun _ h => .inl h⟩
theorem Kps.of_grown {u' : Value} (hg : W.grownBy W1 u.ownBlock) (hn : ∀ r, u'.ownBlock = some r → u.ownBlock = some r ∨ W.heap.size ≤ r) : Kps P u u' W W1 :=
  ⟨hg.os, hg.tape, hg.output, hg.size, fun b hb _ h2 => hg.block b hb (fun e => h2 e.symm), hn⟩
theorem Kps.cell (h : Kps P u u1 W W1) {b o : Nat} {v : Value} (hc : W.cell? ⟨b, o, none⟩ = some v) (h1 : b ≠ P) (h2 : u.ownBlock ≠ some b) : W1.cell? ⟨b, o, none⟩ = some v :=
  (World.cell?_of_block (w := W) (h.same b (World.block_lt_of_cell? W ⟨b, o, none⟩ hc) h1 h2)).trans hc
/-- A list that no one of the search's own writes reaches. -/
def LstI (P : Nat) (u : Value) (W : World) (s : Value) (zs : List Int) : Prop := ∃ b off cap, s = .slice (some ⟨b, off, none⟩) zs.length cap ∧ b < W.heap.size ∧ b ≠ P ∧ u.ownBlock ≠ some b ∧ Ints W b off zs
theorem LstI.kept {s : Value} {zs : List Int} (h : LstI P u W s zs) (k : Kps P u u1 W W1) : LstI P u1 W1 s zs := by
  obtain ⟨b, off, cap, rfl, h1, h2, h3, h4⟩ := h
  have hs := k.size
  refine ⟨b, off, cap, rfl, by omega, h2, fun e => ?_, fun i hi => k.cell (h4 i hi) h2 h3⟩
  rcases k.nxt b e with e | e
  · exact h3 e
  · omega
theorem LstI.ia {s : Value} {zs : List Int} (h : LstI P u W s zs) : IA W s zs := by
  obtain ⟨b, off, cap, rfl, h1, _, _, h4⟩ := h
  exact ⟨b, off, cap, rfl, h1, h4⟩
end
end Go.Proofs.Ytoicdfdfajfopaa

namespace Go.Proofs.Ytoicdfdfajfopaa
def tab1 (zs : List Int) (a b c : Int) : List Int := (zs.set (16 * a + b).toNat c).set (16 * b + a).toNat c
def tabX (zs : List Int) (x : Blk) : Nat → List Int
  | 0 => zs
  | 1 => tab1 zs x.a x.b x.c
  | 2 => tab1 (tab1 zs x.a x.b x.c) x.b x.c x.a
  | _ => tab1 (tab1 (tab1 zs x.a x.b x.c) x.b x.c x.a) x.c x.a x.b
def tabT (bs : List Blk) : List Int := bs.foldl (fun zs x => tabX zs x 3) (List.replicate 256 (-1))
theorem tab1_len (zs : List Int) (a b c : Int) : (tab1 zs a b c).length = zs.length := by simp [tab1]
theorem tabX_len (zs : List Int) (x : Blk) : ∀ k, (tabX zs x k).length = zs.length
  | 0 => rfl
  | 1 => by simp [tabX, tab1_len]
  | 2 => by simp [tabX, tab1_len]
  | _ + 3 => by simp [tabX, tab1_len]
theorem tabF_len : ∀ (bs : List Blk) (zs : List Int), (bs.foldl (fun zs x => tabX zs x 3) zs).length = zs.length
  | [], _ => rfl
  | x :: r, zs => by rw [List.foldl_cons, tabF_len r, tabX_len]
theorem tabT_len (bs : List Blk) : (tabT bs).length = 256 := by unfold tabT; rw [tabF_len, List.length_replicate]
theorem tabT_snoc (bs : List Blk) (x : Blk) : tabT (bs ++ [x]) = tabX (tabT bs) x 3 := by unfold tabT; rw [List.foldl_append]; rfl
section
variable {n : Nat} {bs : List Blk}
/-- The table has the third point of two points. -/
def TabR (bs : List Blk) (a b : Nat) (zs : List Int) : Prop := zs[16 * a + b]? = some (T3 bs a b : Int)
theorem tab1_keep (h : isSysImpl (n : Int) bs = true) {zs : List Int} (hz : zs.length = 256) {a b : Nat} (ha : a < n) (hb : b < n) (hn : n ≤ 15) (hR : TabR bs a b zs) {p q r : Nat} (hp : p < n) (hq : q < n) (ht : Tri bs (p : Int) (q : Int) (r : Int)) (ht2 : Tri bs (q : Int) (p : Int) (r : Int)) : TabR bs a b (tab1 zs (p : Int) (q : Int) (r : Int)) := by
  unfold TabR tab1 at *
  rw [show (16 * (p : Int) + (q : Int)).toNat = 16 * p + q by omega, show (16 * (q : Int) + (p : Int)).toNat = 16 * q + p by omega]
  by_cases h2 : 16 * q + p = 16 * a + b
  · obtain ⟨rfl, rfl⟩ : q = a ∧ p = b := by omega
    rw [List.getElem?_set_self (by simp; omega), T3_of h ht2]
  · rw [List.getElem?_set_ne h2]
    by_cases h1 : 16 * p + q = 16 * a + b
    · obtain ⟨rfl, rfl⟩ : p = a ∧ q = b := by omega
      rw [List.getElem?_set_self (by omega), T3_of h ht]
    · rw [List.getElem?_set_ne h1]
      exact hR
theorem tab1_new (h : isSysImpl (n : Int) bs = true) {zs : List Int} (hz : zs.length = 256) (hn : n ≤ 15) {p q r : Nat} (hp : p < n) (hq : q < n) (hpq : p ≠ q) (ht : Tri bs (p : Int) (q : Int) (r : Int)) (ht2 : Tri bs (q : Int) (p : Int) (r : Int)) : TabR bs p q (tab1 zs (p : Int) (q : Int) (r : Int)) ∧ TabR bs q p (tab1 zs (p : Int) (q : Int) (r : Int)) := by
  unfold TabR tab1
  rw [show (16 * (p : Int) + (q : Int)).toNat = 16 * p + q by omega, show (16 * (q : Int) + (p : Int)).toNat = 16 * q + p by omega]
  constructor
  · rw [List.getElem?_set_ne (by omega), List.getElem?_set_self (by omega), T3_of h ht]
  · rw [List.getElem?_set_self (by simp; omega), T3_of h ht2]
/-- The points of a block of a system. -/
theorem blk_nat (h : isSysImpl (n : Int) bs = true) {x : Blk} (hx : x ∈ bs) : ∃ p q r : Nat, x = ⟨(p : Int), (q : Int), (r : Int)⟩ ∧ p < q ∧ q < r ∧ r < n := by
  obtain ⟨g1, g2, g3, g4⟩ := goodB_iff.1 (sys_good h x hx)
  obtain ⟨a, b, c⟩ := x
  dsimp only at g1 g2 g3 g4
  exact ⟨a.toNat, b.toNat, c.toNat, by simp only [Blk.mk.injEq]; omega, by omega, by omega, by omega⟩
theorem tri_blk (h : isSysImpl (n : Int) bs = true) {p q r : Nat} (hx : (⟨(p : Int), (q : Int), (r : Int)⟩ : Blk) ∈ bs) : Tri bs (p : Int) (q : Int) (r : Int) := by
  obtain ⟨g1, g2, g3, g4⟩ := goodB_iff.1 (sys_good h _ hx)
  dsimp only at g1 g2 g3 g4
  exact ⟨_, hx, by simp [hasB], by simp [hasB], by simp [hasB], by omega, by omega, by omega⟩
theorem tabX_keep (h : isSysImpl (n : Int) bs = true) {zs : List Int} (hz : zs.length = 256) {a b : Nat} (ha : a < n) (hb : b < n) (hn : n ≤ 15) (hR : TabR bs a b zs) {x : Blk} (hx : x ∈ bs) : TabR bs a b (tabX zs x 3) := by
  obtain ⟨p, q, r, rfl, h1, h2, h3⟩ := blk_nat h hx
  have t1 := tri_blk h hx
  have t2 : Tri bs (q : Int) (r : Int) (p : Int) := by obtain ⟨y, hy, a1, a2, a3, b1, b2, b3⟩ := t1; exact ⟨y, hy, a2, a3, a1, b2, fun e => b3 e.symm, fun e => b1 e.symm⟩
  have t3 : Tri bs (r : Int) (p : Int) (q : Int) := by obtain ⟨y, hy, a1, a2, a3, b1, b2, b3⟩ := t2; exact ⟨y, hy, a2, a3, a1, b2, fun e => b3 e.symm, fun e => b1 e.symm⟩
  unfold tabX
  dsimp only
  refine tab1_keep h (by rw [tab1_len, tab1_len]; exact hz) ha hb hn (tab1_keep h (by rw [tab1_len]; exact hz) ha hb hn (tab1_keep h hz ha hb hn hR (by omega) (by omega) t1 t1.swap) (by omega) (by omega) t2 t2.swap) (by omega) (by omega) t3 t3.swap
theorem tabX_new (h : isSysImpl (n : Int) bs = true) {zs : List Int} (hz : zs.length = 256) {a b : Nat} (hn : n ≤ 15) {x : Blk} (hx : x ∈ bs) (hxa : hasB x (a : Int) = true) (hxb : hasB x (b : Int) = true) (hab : a ≠ b) : TabR bs a b (tabX zs x 3) := by
  obtain ⟨p, q, r, rfl, h1, h2, h3⟩ := blk_nat h hx
  have t1 := tri_blk h hx
  have t2 : Tri bs (q : Int) (r : Int) (p : Int) := by obtain ⟨y, hy, a1, a2, a3, b1, b2, b3⟩ := t1; exact ⟨y, hy, a2, a3, a1, b2, fun e => b3 e.symm, fun e => b1 e.symm⟩
  have t3 : Tri bs (r : Int) (p : Int) (q : Int) := by obtain ⟨y, hy, a1, a2, a3, b1, b2, b3⟩ := t2; exact ⟨y, hy, a2, a3, a1, b2, fun e => b3 e.symm, fun e => b1 e.symm⟩
  have hpn : p < n := by omega
  have hqn : q < n := by omega
  obtain ⟨n1, n2⟩ := tab1_new h hz hn hpn hqn (by omega) t1 t1.swap
  obtain ⟨n3, n4⟩ := tab1_new (zs := tab1 zs (p : Int) (q : Int) (r : Int)) h (by rw [tab1_len]; exact hz) hn hqn h3 (by omega) t2 t2.swap
  obtain ⟨n5, n6⟩ := tab1_new (zs := tab1 (tab1 zs (p : Int) (q : Int) (r : Int)) (q : Int) (r : Int) (p : Int)) h (by rw [tab1_len, tab1_len]; exact hz) hn h3 hpn (by omega) t3 t3.swap
  have k2 : ∀ {a b : Nat}, a < n → b < n → TabR bs a b (tab1 zs (p : Int) (q : Int) (r : Int)) → TabR bs a b (tab1 (tab1 zs (p : Int) (q : Int) (r : Int)) (q : Int) (r : Int) (p : Int)) := fun ha hb hR => tab1_keep h (by rw [tab1_len]; exact hz) ha hb hn hR hqn h3 t2 t2.swap
  have k3 : ∀ {a b : Nat}, a < n → b < n → TabR bs a b (tab1 (tab1 zs (p : Int) (q : Int) (r : Int)) (q : Int) (r : Int) (p : Int)) → TabR bs a b (tab1 (tab1 (tab1 zs (p : Int) (q : Int) (r : Int)) (q : Int) (r : Int) (p : Int)) (r : Int) (p : Int) (q : Int)) := fun ha hb hR => tab1_keep h (by rw [tab1_len, tab1_len]; exact hz) ha hb hn hR h3 hpn t3 t3.swap
  unfold tabX
  dsimp only
  simp only [hasB, Bool.or_eq_true, decide_eq_true_eq] at hxa hxb
  have ha : a = p ∨ a = q ∨ a = r := by omega
  have hb : b = p ∨ b = q ∨ b = r := by omega
  rcases ha with rfl | rfl | rfl <;> rcases hb with rfl | rfl | rfl
  · exact absurd rfl hab
  · exact k3 hpn hqn (k2 hpn hqn n1)
  · exact n6
  · exact k3 hqn hpn (k2 hqn hpn n2)
  · exact absurd rfl hab
  · exact k3 hqn h3 n3
  · exact n5
  · exact k3 h3 hqn n4
  · exact absurd rfl hab
theorem tabT_at (h : isSysImpl (n : Int) bs = true) (hf : fullB (n : Int) bs = true) (hn : n ≤ 15) {a b : Nat} (ha : a < n) (hb : b < n) (hab : a ≠ b) : (tabT bs)[16 * a + b]? = some (T3 bs a b : Int) := by
  obtain ⟨⟨x, hx, h1, h2, _⟩, _, _⟩ := T3_cast h hf ha hb hab
  have key : ∀ (l : List Blk) (zs : List Int), (∀ y ∈ l, y ∈ bs) → zs.length = 256 → (x ∈ l ∨ TabR bs a b zs) → TabR bs a b (l.foldl (fun zs x => tabX zs x 3) zs) := by
    intro l
    induction l with
    | nil => intro zs _ _ hh; exact hh.elim (fun hm => by cases hm) id
    | cons y r ih =>
      intro zs hl hz hh
      rw [List.foldl_cons]
      refine ih _ (fun z hz => hl z (List.mem_cons_of_mem _ hz)) (by rw [tabX_len]; exact hz) ?_
      rcases hh with hm | hR
      · rcases List.mem_cons.1 hm with rfl | hm
        · exact .inr (tabX_new h hz hn (hl _ (List.mem_cons_self ..)) h1 h2 hab)
        · exact .inl hm
      · exact .inr (tabX_keep h hz ha hb hn hR (hl _ (List.mem_cons_self ..)))
  exact key bs _ (fun _ hy => hy) List.length_replicate (.inl hx)
end
end Go.Proofs.Ytoicdfdfajfopaa

namespace Go.Proofs.Ytoicdfdfajfopaa
open Go.RowKit Go.Maps
/-- A list of own rows, and an own row that is none of them. -/
structure TabV (W : World) (lo : Nat) (u : Value) (us : List Value) (Rs : List (List Int)) (v : Value) (zs : List Int) : Prop where
  tab : TabL W lo u us Rs
  row : OwnJ W lo v zs
  vu : ∀ r, v.ownBlock = some r → u.ownBlock ≠ some r
  vx : ∀ x ∈ us, ∀ r, v.ownBlock = some r → x.ownBlock ≠ some r
theorem TabV.below {W W' : World} {lo : Nat} {u v : Value} {us : List Value} {Rs : List (List Int)} {zs : List Int} (h : TabV W lo u us Rs v zs) (hb : Below W.heap.size W W') : TabV W' lo u us Rs v zs :=
  ⟨h.tab.below hb, h.row.below hb (Nat.le_refl _), h.vu, h.vx⟩
theorem step_append_tab {w : World} {ops : Array Oper} {o : Oper} {a : Act} {K : Act → World → Prop} {Q : Exit → Act → World → Prop} {E : Prop} (hgd : o.guard = none) (s x : Operand)
    (ho : o.op = .call { callee := .builtin .append, args := #[s, x], argTypes := #[46, 46] })
    (lo B : Nat) (u : Value) (us : List Value) (Rs : List (List Int)) (p : Option Addr) (n0 c0 : Nat) (zs : List Int) (w1 : World) (hs : a.eval s = u) (h : TabV w lo u us Rs (.slice p n0 c0) zs) (hbw : Below B w1 w) (hBl : B ≤ lo) (hlw : lo ≤ w.heap.size) (b0 c : Nat) (hx : a.eval x = .slice (some ⟨b0, 0, none⟩) 1 c)
    (hy : w.cell? ⟨b0, 0, none⟩ = some (.slice p n0 c0)) (hl : Rs.length ≤ 1100000)
    (hk : ∀ (g cap : Nat) (w' : World) (us' : List Value), TabL w' lo (.slice (some ⟨g, 0, none⟩) (Rs.length + 1) cap) us' (Rs ++ [zs]) → Below B w1 w' → lo ≤ w'.heap.size → K (a.put o.dst (.slice (some ⟨g, 0, none⟩) (Rs.length + 1) cap)) w') :
    if Region.wanted o (yielded ops a.tmps) = true then Oper.wp Try.prog o a w K Q else E := by
  have hw : Region.wanted o (yielded ops a.tmps) = true := by simp [Region.wanted, hgd]
  rw [if_pos hw]
  obtain ⟨i0, hi, hz0, hz1, hz2⟩ := info_parts infoRow
  have hown := h.tab.own
  have hul := h.tab.len
  obtain ⟨v', w', h1, h2, h3, _, h5⟩ := run_append_own_at (P := Try.prog) w lo 46 o.type 25 i0 _ 1 24 Try.underlying46 hi hz0 hz1 hz2 rfl (by decide) u us.length us hown ⟨b0, 0, none⟩ 1 c [.slice p n0 c0] rfl (fun j q hj => by
    rw [addr_at, Nat.zero_add]
    match j, hj with
    | 0, hj => simp at hj; rw [← hj]; exact hy
    | j + 1, hj => simp at hj) (fun q hq => by
    simp at hq
    rw [hq]
    rfl) (by unfold maxLen; omega) (by omega) hlw
  obtain ⟨g, cap, rfl⟩ := row_some h2
  have hV : RowsV w' lo (.slice (some ⟨g, 0, none⟩) (us.length + 1) cap) (us ++ [.slice p n0 c0]) := by
    unfold RowsV; rw [List.length_append]; exact h2
  have hG : ∀ G, (Value.slice (some ⟨g, 0, none⟩) (us.length + 1) cap).ownBlock = some G → u.ownBlock = some G ∨ w.heap.size ≤ G := fun G e => by
    have e : g = G := by simpa [Value.ownBlock] using e
    subst e
    rcases h5 with e | e
    · exact .inl (by rw [← e]; rfl)
    · have : g = w.heap.size := by simpa [Value.ownBlock] using e
      exact .inr (by omega)
  have hT := h.tab.snoc h.row h.vu h.vx h3 hV hG
  unfold Oper.wp execOp
  simp only [ho, resolve, invoke, builtin, Sem.run_bind, Sem.run_pure, Result.andThen_ok, List.map_toArray, List.map_cons, List.map_nil, hs, hx, h1]
  have hz3 := h3.size
  have := hk g cap w' _ (by rw [← hul]; exact hT) (hbw.grown h3 (by omega) (fun r e => by have := (hown.blkP r e).1; omega)) (by omega)
  rw [← hul] at this
  exact this
end Go.Proofs.Ytoicdfdfajfopaa

namespace Go.Proofs.Ytoicdfdfajfopaa
open Go.RowKit Go.Maps
theorem step_append_tab2 {w : World} {ops : Array Oper} {o : Oper} {a : Act} {K : Act → World → Prop} {Q : Exit → Act → World → Prop} {E : Prop} (hgd : o.guard = none) (s x : Operand)
    (ho : o.op = .call { callee := .builtin .append, args := #[s, x], argTypes := #[46, 46] })
    (lo : Nat) (u : Value) (us : List Value) (Rs : List (List Int)) (p : Option Addr) (n0 c0 : Nat) (zs : List Int) (hs : a.eval s = u) (h : TabV w lo u us Rs (.slice p n0 c0) zs) (hlw : lo ≤ w.heap.size) (b0 c : Nat) (hx : a.eval x = .slice (some ⟨b0, 0, none⟩) 1 c)
    (hy : w.cell? ⟨b0, 0, none⟩ = some (.slice p n0 c0)) (hl : Rs.length ≤ 1100000)
    (hk : ∀ (g cap : Nat) (w' : World), TabL w' lo (.slice (some ⟨g, 0, none⟩) (Rs.length + 1) cap) (us ++ [.slice p n0 c0]) (Rs ++ [zs]) → w.grownBy w' u.ownBlock → (u.ownBlock = some g ∨ w.heap.size ≤ g) → K (a.put o.dst (.slice (some ⟨g, 0, none⟩) (Rs.length + 1) cap)) w') :
    if Region.wanted o (yielded ops a.tmps) = true then Oper.wp Try.prog o a w K Q else E := by
  have hw : Region.wanted o (yielded ops a.tmps) = true := by simp [Region.wanted, hgd]
  rw [if_pos hw]
  obtain ⟨i0, hi, hz0, hz1, hz2⟩ := info_parts infoRow
  have hown := h.tab.own
  have hul := h.tab.len
  obtain ⟨v', w', h1, h2, h3, _, h5⟩ := run_append_own_at (P := Try.prog) w lo 46 o.type 25 i0 _ 1 24 Try.underlying46 hi hz0 hz1 hz2 rfl (by decide) u us.length us hown ⟨b0, 0, none⟩ 1 c [.slice p n0 c0] rfl (fun j q hj => by
    rw [addr_at, Nat.zero_add]
    match j, hj with
    | 0, hj => simp at hj; rw [← hj]; exact hy
    | j + 1, hj => simp at hj) (fun q hq => by
    simp at hq
    rw [hq]
    rfl) (by unfold maxLen; omega) (by omega) hlw
  obtain ⟨g, cap, rfl⟩ := row_some h2
  have hV : RowsV w' lo (.slice (some ⟨g, 0, none⟩) (us.length + 1) cap) (us ++ [.slice p n0 c0]) := by
    unfold RowsV; rw [List.length_append]; exact h2
  have hG0 : u.ownBlock = some g ∨ w.heap.size ≤ g := by
    rcases h5 with e | e
    · exact .inl (by rw [← e]; rfl)
    · have : g = w.heap.size := by simpa [Value.ownBlock] using e
      exact .inr (by omega)
  have hG : ∀ G, (Value.slice (some ⟨g, 0, none⟩) (us.length + 1) cap).ownBlock = some G → u.ownBlock = some G ∨ w.heap.size ≤ G := fun G e => by
    have e : g = G := by simpa [Value.ownBlock] using e
    subst e
    exact hG0
  have hT := h.tab.snoc h.row h.vu h.vx h3 hV hG
  unfold Oper.wp execOp
  simp only [ho, resolve, invoke, builtin, Sem.run_bind, Sem.run_pure, Result.andThen_ok, List.map_toArray, List.map_cons, List.map_nil, hs, hx, h1]
  have := hk g cap w' (by rw [← hul]; exact hT) h3 hG0
  rw [← hul] at this
  exact this
/-- The box of a search. -/
def SeaS (W : World) (P g1 g2 n most : Nat) (u : Value) (ar : Bool) : Prop := W.heap[P]? = some (.cells #[.slice (some ⟨g1, 0, none⟩) 256 256, .slice (some ⟨g2, 0, none⟩) 256 256, .int .i64 (n : Int), .int .i64 (most : Int), u, .bool ar] 107 (0, 0))
section
variable {W W' : World} {P g1 g2 n most : Nat} {u u' : Value} {ar : Bool}
theorem SeaS.lt (h : SeaS W P g1 g2 n most u ar) : P < W.heap.size := (Array.getElem?_eq_some_iff.1 h).1
theorem SeaS.cells (h : SeaS W P g1 g2 n most u ar) : W.cell? ⟨P, 0, none⟩ = some (.slice (some ⟨g1, 0, none⟩) 256 256) ∧ W.cell? ⟨P, 1, none⟩ = some (.slice (some ⟨g2, 0, none⟩) 256 256) ∧ W.cell? ⟨P, 2, none⟩ = some (.int .i64 (n : Int)) ∧ W.cell? ⟨P, 3, none⟩ = some (.int .i64 (most : Int)) ∧ W.cell? ⟨P, 4, none⟩ = some u ∧ W.cell? ⟨P, 5, none⟩ = some (.bool ar) ∧ W.frozen? ⟨P, 4, none⟩ = false := by
  have : W.heap[P]? = _ := h
  refine ⟨?_, ?_, ?_, ?_, ?_, ?_, ?_⟩ <;> simp [World.cell?, World.frozen?, this]
theorem SeaS.below (h : SeaS W P g1 g2 n most u ar) (hb : Below W.heap.size W W') : SeaS W' P g1 g2 n most u ar := (hb.block P h.lt).trans h
theorem SeaS.grown {row : Option Nat} (h : SeaS W P g1 g2 n most u ar) (hg : W.grownBy W' row) (hr : row ≠ some P) : SeaS W' P g1 g2 n most u ar := (hg.block P h.lt (fun e => hr e.symm)).trans h
theorem SeaS.set (h : SeaS W P g1 g2 n most u ar) (u' : Value) : SeaS (W.setCell ⟨P, 4, none⟩ u') P g1 g2 n most u' ar := by
  have := heap_setCell_same W P 4 _ _ u' h
  simpa [SeaS] using this
end
/-- What a search leaves. -/
def SeaR (W : World) (P g1 g2 n most lo : Nat) (u : Value) (ar : Bool) (fd : List (List Nat)) (W' : World) : Prop :=
  ∃ u' us', SeaS W' P g1 g2 n most u' ar ∧ TabL W' lo u' us' (fd.map castN) ∧ u'.ownBlock ≠ some P ∧ (∀ x ∈ us', x.ownBlock ≠ some P) ∧ (∃ a m c, u' = .slice a m c ∧ m = fd.length) ∧ Kps P u u' W W'
end Go.Proofs.Ytoicdfdfajfopaa


/- A list of the call's own of rows of the call's own, which may grow. The model's l09Table. TurnOf. The program's isRenumbering. Places in a list: the program's and the model's. impl.placesOf: the places of a block's points in a list. A copy of a list by the model. The model's TurnOf. -/
import Derived.Test.YtahgialnhomefaaJ13
namespace Go.Proofs.Ytahgialnhomefaa
open Go.RowKit Go.Maps
theorem OwnJ.blkP {w : World} {base : Nat} {v : Value} {zs : List Int} (h : OwnJ w base v zs) : ∀ r, v.ownBlock = some r → base ≤ r ∧ r < w.heap.size := fun r e => by
  rcases h.2 with ⟨hv, _⟩ | ⟨g, cap, cur, hv, hb, hcur, _⟩
  · rw [hv] at e; simp [Value.ownBlock] at e
  · rw [hv] at e
    obtain rfl : g = r := by simpa [Value.ownBlock] using e
    exact ⟨hb, (Array.getElem?_eq_some_iff.1 hcur).1⟩
theorem RowsV.blkP {w : World} {base : Nat} {v : Value} {hs : List Value} (h : RowsV w base v hs) : ∀ r, v.ownBlock = some r → base ≤ r ∧ r < w.heap.size := fun r e => by
  rcases h.2 with ⟨hv, _⟩ | ⟨g, cap, cur, hv, hb, hcur, _⟩
  · rw [hv] at e; simp [Value.ownBlock] at e
  · rw [hv] at e
    obtain rfl : g = r := by simpa [Value.ownBlock] using e
    exact ⟨hb, (Array.getElem?_eq_some_iff.1 hcur).1⟩
theorem RowsV.new0 (W : World) {base : Nat} (hb : base ≤ W.heap.size) : RowsV (W.alloc (.cells #[] 38)) base (.slice (some ⟨W.heap.size, 0, none⟩) 0 0) [] :=
  ⟨rfl, .inr ⟨W.heap.size, 0, #[], rfl, hb, World.alloc_heap_new W _, Nat.le_refl _, by unfold maxLen; omega, rfl, rfl⟩⟩
theorem OwnJ.baseP {w : World} {b b' : Nat} {u : Value} {zs : List Int} (h : OwnJ w b u zs) (hb : b' ≤ b) : OwnJ w b' u zs := ownsRow_base h hb
structure TabL (W : World) (lo : Nat) (u : Value) (us : List Value) (Rs : List (List Int)) : Prop where
  own : RowsV W lo u us
  len : us.length = Rs.length
  row : ∀ (k : Nat) (x : Value), us[k]? = some x → OwnJ W lo x (Rs[k]?.getD [])
  ne : ∀ x ∈ us, ∀ r, u.ownBlock = some r → x.ownBlock ≠ some r
  inc : ∀ (j k : Nat) (x y : Value), j ≠ k → us[j]? = some x → us[k]? = some y → ∀ r, x.ownBlock = some r → y.ownBlock ≠ some r
variable {W W' : World} {lo : Nat} {u : Value} {us : List Value} {Rs : List (List Int)}
theorem TabL.new0 (W : World) (hb : lo ≤ W.heap.size) : TabL (W.alloc (.cells #[] 38)) lo (.slice (some ⟨W.heap.size, 0, none⟩) 0 0) [] [] :=
  ⟨RowsV.new0 W hb, rfl, fun k x h => by simp at h, fun x h => by simp at h, fun j k x y _ h => by simp at h⟩
theorem TabL.kept (h : TabL W lo u us Rs) {row : Option Nat} (hg : W.grownBy W' row) (hu : ∀ r, row = some r → u.ownBlock ≠ some r) (hx : ∀ x ∈ us, ∀ r, row = some r → x.ownBlock ≠ some r) : TabL W' lo u us Rs :=
  ⟨h.own.kept hg (by cases row with
    | none => exact .inl rfl
    | some r => exact .inr (hu r rfl)), h.len, fun k x hk => (h.row k x hk).apartP hg (hx x (List.mem_of_getElem? hk)), h.ne, h.inc⟩
theorem TabL.below (h : TabL W lo u us Rs) (hb : Below W.heap.size W W') : TabL W' lo u us Rs :=
  h.kept (gb_below hb) (fun r e => by cases e) (fun _ _ r e => by cases e)
theorem TabL.snoc (h : TabL W lo u us Rs) {v : Value} {zs : List Int} (hv : OwnJ W lo v zs) (hvu : ∀ r, v.ownBlock = some r → u.ownBlock ≠ some r) (hvx : ∀ x ∈ us, ∀ r, v.ownBlock = some r → x.ownBlock ≠ some r)
    (hg : W.grownBy W' u.ownBlock) {u' : Value} (hV : RowsV W' lo u' (us ++ [v])) (hG : ∀ G, u'.ownBlock = some G → u.ownBlock = some G ∨ W.heap.size ≤ G) : TabL W' lo u' (us ++ [v]) (Rs ++ [zs]) := by
  have hk : ∀ x ∈ us, ∀ r, u.ownBlock = some r → x.ownBlock ≠ some r := h.ne
  have hvk : OwnJ W' lo v zs := hv.apartP hg (fun r e e2 => hvu r e2 e)
  refine ⟨hV, by simp [h.len], fun k x hx => ?_, fun x hx r e => ?_, fun j k x y hjk hx hy r e => ?_⟩
  · by_cases hlt : k < us.length
    · rw [List.getElem?_append_left hlt] at hx
      rw [List.getElem?_append_left (by rw [← h.len]; exact hlt)]
      exact (h.row k x hx).apartP hg (fun r e => h.ne x (List.mem_of_getElem? hx) r e)
    · have hkl : k = us.length := by
        have := (List.getElem?_eq_some_iff.1 hx).1
        simp at this; omega
      subst hkl
      rw [List.getElem?_append_right (Nat.le_refl _), Nat.sub_self] at hx
      rw [h.len, List.getElem?_append_right (Nat.le_refl _), Nat.sub_self]
      simp at hx
      subst hx
      exact hvk
  · have hxb : ∀ r, x.ownBlock = some r → r < W.heap.size := fun r e => by
      rcases List.mem_append.1 hx with hx | hx
      · obtain ⟨k, hk⟩ := List.mem_iff_getElem?.1 hx
        exact ((h.row k x hk).blkP r e).2
      · rw [List.mem_singleton] at hx; subst hx; exact (hv.blkP r e).2
    intro e2
    rcases hG r e with e3 | e3
    · rcases List.mem_append.1 hx with hx | hx
      · exact h.ne x hx r e3 e2
      · rw [List.mem_singleton] at hx; subst hx; exact hvu r e2 e3
    · have := hxb r e2; omega
  · have at_ : ∀ m z, (us ++ [v])[m]? = some z → (m < us.length ∧ us[m]? = some z) ∨ (m = us.length ∧ z = v) := fun m z hz => by
      by_cases hlt : m < us.length
      · rw [List.getElem?_append_left hlt] at hz; exact .inl ⟨hlt, hz⟩
      · have hl := (List.getElem?_eq_some_iff.1 hz).1
        simp at hl
        have hm : m = us.length := by omega
        subst hm
        rw [List.getElem?_append_right (Nat.le_refl _), Nat.sub_self] at hz
        simp at hz
        exact .inr ⟨rfl, hz.symm⟩
    rcases at_ j x hx with ⟨hj, hx2⟩ | ⟨hj, hx2⟩
    · rcases at_ k y hy with ⟨hk2, hy2⟩ | ⟨hk2, hy2⟩
      · exact h.inc j k x y hjk hx2 hy2 r e
      · intro e2; rw [hy2] at e2; exact hvx x (List.mem_of_getElem? hx2) r e2 e
    · rcases at_ k y hy with ⟨hk2, hy2⟩ | ⟨hk2, hy2⟩
      · rw [hx2] at e; exact hvx y (List.mem_of_getElem? hy2) r e
      · omega
/-- A row that was made behind the list is put at its end. -/
theorem TabL.snocB {V : World} (h : TabL V lo u us Rs) (hb : Below V.heap.size V W) {v : Value} {zs : List Int} (hv : OwnJ W V.heap.size v zs) (hlo : lo ≤ V.heap.size) (hg : W.grownBy W' u.ownBlock) {u' : Value} (hV : RowsV W' lo u' (us ++ [v])) (hG : ∀ G, u'.ownBlock = some G → u.ownBlock = some G ∨ W.heap.size ≤ G) : TabL W' lo u' (us ++ [v]) (Rs ++ [zs]) := by
  refine (h.below hb).snoc (hv.baseP hlo) (fun r e e2 => ?_) (fun x hx r e e2 => ?_) hg hV hG
  · have := (hv.blkP r e).1; have := (h.own.blkP r e2).2; omega
  · obtain ⟨k, hk⟩ := List.mem_iff_getElem?.1 hx
    have := (hv.blkP r e).1; have := ((h.row k x hk).blkP r e2).2; omega
/-- A number of a row is written. -/
theorem TabL.sst {k g n cap j : Nat} (h : TabL W lo u us Rs) (hx : us[k]? = some (.slice (some ⟨g, 0, none⟩) n cap)) (hj : j < (Rs[k]?.getD []).length) (y : Int) :
    TabL (W.setCell ⟨g, j, none⟩ (.int .i64 y)) lo u us (Rs.set k ((Rs[k]?.getD []).set j y)) ∧ W.grownBy (W.setCell ⟨g, j, none⟩ (.int .i64 y)) (some g) := by
  have ho := h.row k _ hx
  obtain ⟨s1, s2⟩ := ho.setT (i := j) (x := y) hj
  have hkl : k < us.length := (List.getElem?_eq_some_iff.1 hx).1
  refine ⟨⟨h.own.kept s2 (.inr fun e => h.ne _ (List.mem_of_getElem? hx) g e rfl), by rw [List.length_set]; exact h.len, fun m z hz => ?_, h.ne, h.inc⟩, s2⟩
  by_cases e : m = k
  · subst e
    rw [hx] at hz
    cases hz
    rw [List.getElem?_set_self (by rw [← h.len]; exact hkl)]
    exact s1
  · rw [List.getElem?_set_ne (fun e2 => e e2.symm)]
    exact (h.row m z hz).apartP s2 (fun r hr => by cases hr; exact h.inc k m _ z (fun e2 => e e2.symm) hx hz g rfl)
/-- A row is put in the place of another one that grew into it. -/
theorem TabL.put {k G m c g : Nat} {x : Value} {n cap : Nat} {zs : List Int} (h : TabL W lo (.slice (some ⟨G, 0, none⟩) m c) us Rs) (hx : us[k]? = some x) (hg : W.grownBy W' x.ownBlock) (ho : OwnJ W' lo (.slice (some ⟨g, 0, none⟩) n cap) zs) (hG : x.ownBlock = some g ∨ W.heap.size ≤ g) :
    TabL (W'.setCell ⟨G, k, none⟩ (.slice (some ⟨g, 0, none⟩) n cap)) lo (.slice (some ⟨G, 0, none⟩) m c) (us.set k (.slice (some ⟨g, 0, none⟩) n cap)) (Rs.set k zs) ∧ W'.grownBy (W'.setCell ⟨G, k, none⟩ (.slice (some ⟨g, 0, none⟩) n cap)) (some G) := by
  have hxm := List.mem_of_getElem? hx
  have hkl : k < us.length := (List.getElem?_eq_some_iff.1 hx).1
  have hGb := h.own.blkP G rfl
  have hV : RowsV W' lo (.slice (some ⟨G, 0, none⟩) m c) us := h.own.kept hg (by
    cases hxo : x.ownBlock with
    | none => exact .inl rfl
    | some r => exact .inr fun e => h.ne x hxm G rfl (by rw [hxo, ← e]; rfl))
  obtain ⟨s1, s2⟩ := hV.setT (i := k) (x := .slice (some ⟨g, 0, none⟩) n cap)
  have hne : g ≠ G := by
    rcases hG with e | e
    · intro h0; exact h.ne x hxm G rfl (h0 ▸ e)
    · omega
  have hap : ∀ j z, j ≠ k → us[j]? = some z → z.ownBlock ≠ some g := fun j z hjk hz => by
    rcases hG with e | e
    · exact h.inc k j x z (Ne.symm hjk) hx hz g e
    · intro e2; have := ((h.row j z hz).blkP g e2).2; omega
  have at_ : ∀ j z, (us.set k (.slice (some ⟨g, 0, none⟩) n cap))[j]? = some z → (j = k ∧ z = .slice (some ⟨g, 0, none⟩) n cap) ∨ (j ≠ k ∧ us[j]? = some z) := fun j z hz => by
    by_cases e : j = k
    · subst e
      rw [List.getElem?_set_self hkl] at hz
      exact .inl ⟨rfl, (Option.some.inj hz).symm⟩
    · rw [List.getElem?_set_ne (fun e2 => e e2.symm)] at hz
      exact .inr ⟨e, hz⟩
  refine ⟨⟨s1, by rw [List.length_set, List.length_set]; exact h.len, fun j z hz => ?_, fun z hz r e => ?_, fun j q y z hjq hy hz r e => ?_⟩, s2⟩
  · rcases at_ j z hz with ⟨rfl, rfl⟩ | ⟨hjk, hz⟩
    · rw [List.getElem?_set_self (by rw [← h.len]; exact hkl)]
      exact ho.apartP s2 (fun r hr => by cases hr; simp [Value.ownBlock]; exact hne)
    · rw [List.getElem?_set_ne (fun e2 => hjk e2.symm)]
      refine ((h.row j z hz).apartP hg (fun r hr => ?_)).apartP s2 (fun r hr => ?_)
      · exact h.inc k j x z (Ne.symm hjk) hx hz r hr
      · cases hr; exact h.ne z (List.mem_of_getElem? hz) G rfl
  · obtain ⟨j, hj⟩ := List.mem_iff_getElem?.1 hz
    have e : G = r := by simpa [Value.ownBlock] using e
    subst e
    rcases at_ j z hj with ⟨rfl, rfl⟩ | ⟨_, hz⟩
    · simp [Value.ownBlock]; exact hne
    · exact h.ne z (List.mem_of_getElem? hz) G rfl
  · rcases at_ j y hy with ⟨hj2, hy2⟩ | ⟨hjk, hy2⟩
    · rcases at_ q z hz with ⟨hq2, _⟩ | ⟨hqk, hz2⟩
      · omega
      · have e : g = r := by rw [hy2] at e; simpa [Value.ownBlock] using e
        subst e
        exact hap q z hqk hz2
    · rcases at_ q z hz with ⟨hq2, hz2⟩ | ⟨hqk, hz2⟩
      · intro e2
        have e2 : g = r := by rw [hz2] at e2; simpa [Value.ownBlock] using e2
        subst e2
        exact hap j y hjk hy2 e
      · exact h.inc j q y z hjq hy2 hz2 r e
/-- A header of the list, and the row behind it. -/
theorem TabL.at_ (h : TabL W lo u us Rs) {k : Nat} (hk : k < Rs.length) (h0 : 0 < (Rs[k]?.getD []).length) (hl : (Rs[k]?.getD []).length ≤ 1100000) : ∃ G c g cap, u = .slice (some ⟨G, 0, none⟩) Rs.length c ∧ lo ≤ G ∧ W.cell? ⟨G, k, none⟩ = some (.slice (some ⟨g, 0, none⟩) (Rs[k]?.getD []).length cap) ∧ W.frozen? ⟨G, k, none⟩ = false ∧ us[k]? = some (.slice (some ⟨g, 0, none⟩) (Rs[k]?.getD []).length cap) ∧ OwnAtI W g (Rs[k]?.getD []) ∧ lo ≤ g := by
  have hku : k < us.length := by rw [h.len]; exact hk
  obtain ⟨x, hx⟩ : ∃ x, us[k]? = some x := ⟨_, List.getElem?_eq_getElem hku⟩
  obtain ⟨G, c, hu⟩ := h.own.form (by omega)
  obtain ⟨g, cap, rfl, h1, h2⟩ := (h.row k x hx).at0 h0 hl
  have hV := h.own
  rw [hu] at hV
  obtain ⟨a1, a2, a3, a4, a5⟩ := hV.at_ hx
  exact ⟨G, c, g, cap, by rw [hu, h.len], a2, a1, a5, hx, h1, h2⟩
theorem TabL.ssr (h : TabL W lo u us Rs) (h0 : 0 < Rs.length) (hr : ∀ k, k < Rs.length → 0 < (Rs[k]?.getD []).length ∧ (Rs[k]?.getD []).length ≤ 1100000) : ∃ G c gs caps, u = .slice (some ⟨G, 0, none⟩) Rs.length c ∧ lo ≤ G ∧ SSR W lo G gs caps Rs.length (fun k => Rs[k]?.getD []) := by
  obtain ⟨G, c, hu⟩ := h.own.form (by rw [h.len]; exact h0)
  have hG := h.own.blkP G (by rw [hu]; rfl)
  have H : ∀ k, ∃ g cap, k < Rs.length → W.cell? ⟨G, k, none⟩ = some (.slice (some ⟨g, 0, none⟩) (Rs[k]?.getD []).length cap) ∧ us[k]? = some (.slice (some ⟨g, 0, none⟩) (Rs[k]?.getD []).length cap) ∧ OwnAtI W g (Rs[k]?.getD []) ∧ lo ≤ g := fun k => by
    by_cases hk : k < Rs.length
    · obtain ⟨G', c', g, cap, e, _, a1, _, a2, a3, a4⟩ := h.at_ hk (hr k hk).1 (hr k hk).2
      rw [hu] at e
      simp at e
      obtain ⟨rfl, _⟩ := e
      exact ⟨g, cap, fun _ => ⟨a1, a2, a3, a4⟩⟩
    · exact ⟨0, 0, fun h => absurd h hk⟩
  refine ⟨G, c, fun k => (H k).choose, fun k => (H k).choose_spec.choose, by rw [hu, h.len], hG.1, fun k hk => ?_, fun k hk => ?_, fun k hk e => ?_, fun j k hjk hk e => ?_, fun k hk => ?_, hG.2⟩
  · exact ((H k).choose_spec.choose_spec hk).1
  · exact ((H k).choose_spec.choose_spec hk).2.2.1
  · exact h.ne _ (List.mem_of_getElem? ((H k).choose_spec.choose_spec hk).2.1) G (by rw [hu]; rfl) (by simp [Value.ownBlock]; exact e)
  · exact h.inc j k _ _ (by omega) ((H j).choose_spec.choose_spec (by omega)).2.1 ((H k).choose_spec.choose_spec hk).2.1 _ rfl (by simp [Value.ownBlock]; exact e.symm)
  · exact ((H k).choose_spec.choose_spec hk).2.2.2
end Go.Proofs.Ytahgialnhomefaa

namespace Go.Proofs.Ytahgialnhomefaa
open Go.RowKit Go.Maps
def rowsTo (n : Nat) (P : Nat → Nat → Int) (a : Nat) : List (List Int) := (List.range a).map (rowT n P)
theorem rowsTo_succ (n : Nat) (P : Nat → Nat → Int) (a : Nat) : rowsTo n P (a + 1) = rowsTo n P a ++ [rowT n P a] := by simp [rowsTo, List.range_succ]
theorem rowsTo_len (n : Nat) (P : Nat → Nat → Int) (a : Nat) : (rowsTo n P a).length = a := by simp [rowsTo]
theorem rowsTo_at (n : Nat) (P : Nat → Nat → Int) {a k : Nat} (h : k < a) : (rowsTo n P a)[k]?.getD [] = rowT n P k := by simp [rowsTo, h]
theorem rowT_take {n : Nat} (P : Nat → Nat → Int) (a : Nat) {b : Nat} (hb : b < n) : (rowT n P a).take (b + 1) = (rowT n P a).take b ++ [P a b] := by
  rw [List.take_add_one, List.getElem?_eq_getElem (by rw [rowT_len]; exact hb)]
  have := rowT_at P a hb
  rw [List.getElem?_eq_getElem (by rw [rowT_len]; exact hb)] at this
  simp only [Option.getD_some] at this
  rw [this]; rfl
set_option maxRecDepth 100000 in
set_option maxHeartbeats 2000000 in
theorem l09Table_any (n : Nat) (s : Value) (bs : List Blk) (w : World) (h : SB w s bs) (hi : isSysImpl (n : Int) bs = true) (hf : fullB (n : Int) bs = true) :
    Calls Try.prog 54 #[.agg #[.int .i64 (n : Int), s]] w (fun e w' => ∃ u us, e = .returned u ∧ TabL w' w.heap.size u us (rowsTo n (prd 0 n bs) n) ∧ Below w.heap.size w w') := by
  have hs := h.slice
  obtain ⟨hv3, hv15, hb35⟩ := sys_size hi
  have HP := Lib.hid fun (a b : Nat) (ha : a < n) (hb : b < n) W (hW : Below w.heap.size w W) => l09Product_any n s bs a b W (h.below hW (Nat.le_refl _)) hi hf ha hb
  obtain ⟨R, hR⟩ : ∃ R, R = prd 0 n bs := ⟨_, rfl⟩
  rw [← hR] at HP ⊢
  clear h hi hf hR hb35
  obtain ⟨a0, c0, rfl⟩ := hs
  go_enter Try.func54, Try.ntmps54
  go_wp2
  have hbA : Below w.heap.size w (w.alloc (.cells #[.int .i64 (n : Int), .slice a0 bs.length c0] 30)) := (Below.refl _ _).alloc (Nat.le_refl _) _
  obtain ⟨w1, hw1⟩ : ∃ w1, w1 = w.alloc (.cells #[.int .i64 (n : Int), .slice a0 bs.length c0] 30) := ⟨_, rfl⟩
  have x0 : w1.cell? ⟨w.heap.size, 0, none⟩ = some (.int .i64 (n : Int)) := by rw [hw1]; simp [go_sem]
  have x1 : w1.cell? ⟨w.heap.size, 1, none⟩ = some (.slice a0 bs.length c0) := by rw [hw1]; simp [go_sem]
  have hz1 : w1.heap.size = w.heap.size + 1 := by rw [hw1]; simp
  rw [← hw1] at hbA ⊢
  have HT0 := Lib.hid (TabL.new0 (lo := w1.heap.size) w1 (Nat.le_refl _))
  have HBA := Lib.hid hbA
  clear hw1 hbA
  rw [← hz1]
  have hz1' : w.heap.size < w1.heap.size := by omega
  clear hz1
  go_loopw [3, 4] (fun o i wr => ∃ (a : Nat) (us : List Value), a ≤ n ∧ i = .int .i64 (a : Int) ∧ Below w1.heap.size w1 wr ∧ TabL wr w1.heap.size o us (rowsTo n R a) ∧ ∃ p m c, o = .slice p m c) (fun _ i _ => n - (intOf i).toNat)
  case atStart => exact ⟨0, [], Nat.zero_le _, rfl, (Below.refl _ _).alloc (Nat.le_refl _) _, HT0.out, _, _, _, rfl⟩
  case round =>
    obtain ⟨a, us, ha, rfl, hB, hT, p3, m3, c3, rfl⟩ := hrel
    have HB := Lib.hid hB
    have HT := Lib.hid hT
    have hz := hB.size
    have r0 := (hB.cell (p := ⟨w.heap.size, 0, none⟩) (by show w.heap.size < _; omega)).trans x0
    clear hB hT
    by_cases hal : a < n
    · have g0 : decide ((a : Int) < (n : Int)) = true := by simp; omega
      have HO0 := Lib.hid (OwnJ.new0 wr (base := wr.heap.size) (Nat.le_refl _))
      go_wp2
      obtain ⟨V, rfl⟩ : ∃ V, V = wr := ⟨_, rfl⟩
      go_loopw [5, 6] (fun o i wq => ∃ (b : Nat), b ≤ n ∧ i = .int .i64 (b : Int) ∧ Below V.heap.size V wq ∧ OwnJ wq V.heap.size o ((rowT n R a).take b) ∧ ∃ p m c, o = .slice p m c) (fun _ i _ => n - (intOf i).toNat)
      case atStart => exact ⟨0, Nat.zero_le _, rfl, (Below.refl _ _).alloc (Nat.le_refl _) _, by rw [List.take_zero]; exact HO0.out, _, _, _, rfl⟩
      case round =>
        obtain ⟨b, hb, rfl, hBq, hO, p5, m5, c5, rfl⟩ := hrel
        have HBQ := Lib.hid hBq
        have HO := Lib.hid hO
        have hzq := hBq.size
        have q0 := (hBq.cell (p := ⟨w.heap.size, 0, none⟩) (by show w.heap.size < _; omega)).trans r0
        have q1 := (hBq.cell (p := ⟨w.heap.size, 1, none⟩) (by show w.heap.size < _; omega)).trans ((HB.out.cell (p := ⟨w.heap.size, 1, none⟩) (by show w.heap.size < _; omega)).trans x1)
        clear hBq hO
        by_cases hbl : b < n
        · have g1 : decide ((b : Int) < (n : Int)) = true := by simp; omega
          have HPC := Lib.hid (HP.out a b hal hbl wr (HBA.out.trans ((HB.out.trans (HBQ.out.mono hz)).mono (by omega))))
          have HTK := Lib.hid (rowT_take R a hbl)
          obtain ⟨y, hy⟩ : ∃ y, y = R a b := ⟨_, rfl⟩
          rw [← hy] at HPC HTK
          have hll : ((rowT n R a).take b).length ≤ 1100000 := by rw [List.length_take, rowT_len]; omega
          clear hy
          obtain ⟨L, hL⟩ : ∃ L, L = (rowT n R a).take b := ⟨_, rfl⟩
          rw [← hL] at HTK hll HO
          clear hL
          go_wp2_with fail
          refine HPC.out.mono ?_
          rintro e w3 ⟨rfl, hb3⟩
          have HO3 := Lib.hid (HO.out.below hb3 (Nat.le_refl _))
          have hz3 := hb3.size
          have HB3 := Lib.hid (HBQ.out.trans (hb3.mono hzq))
          clear hb3
          go_wp2_with (at_builtin; refine wpList_append_int rfl _ _ rfl V.heap.size _ L rfl (HO3.out.below ((Below.refl _ _).alloc (Nat.le_refl _) _) (Nat.le_refl _)) _ _ y rfl (by simp [go_sem]) hll (by simp; omega) ?_; intro g' cap' w4 hO4 hg4)
          have hrow := HO3.out.row
          have hgo := gb_trans (World.grownBy_alloc _ _ none) hg4
          clear hg4
          go_roundw
          case rel => first
            | exact ⟨b + 1, by omega, by go_num, HB3.out.grown hgo HB3.out.size (fun j e => hrow j e), by rw [HTK.out]; exact hO4, _, _, _, rfl⟩
            | ((repeat apply Exists.intro); exact ⟨⟨b + 1, by omega, by go_num, HB3.out.grown hgo HB3.out.size (fun j e => hrow j e), by rw [HTK.out]; exact hO4, _, _, _, rfl⟩, rfl⟩)
          case measure => simp [intOf]; omega
        · have g1 : decide ((b : Int) < (n : Int)) = false := by simp; omega
          have e : b = n := by omega
          have HO2 := Lib.hid (show OwnJ wr V.heap.size (.slice p5 m5 c5) (rowT n R a) by
            have := HO.out
            rw [e, List.take_of_length_le (by rw [rowT_len]; exact Nat.le_refl n)] at this
            exact this)
          have hll : us.length ≤ 1100000 := by rw [HT.out.len, rowsTo_len]; omega
          have HTO := Lib.hid (HT.out.own.below HBQ.out (Nat.le_refl _))
          have hm3 : m3 = us.length := by
            rcases HT.out.own.2 with ⟨hv, h0⟩ | ⟨_, _, _, hv, _⟩
            · cases hv; exact h0.symm
            · cases hv; rfl
          subst hm3
          clear HO e
          go_wp2_with (at_builtin; refine wpList_append_hdr rfl _ _ rfl w1.heap.size _ us rfl (HTO.out.below ((Below.refl _ _).alloc (Nat.le_refl _) _) (Nat.le_refl _)) _ _ rfl p5 m5 c5 (by simp [go_sem]) hll (by simp; omega) ?_; intro G' cap' w4 hV4 hg4 hG4)
          have hb6 := (Below.refl wr.heap.size wr).alloc (Nat.le_refl _) (.cells #[.slice p5 m5 c5] 38)
          have hbl := (HT.out.own.blkP)
          have hsn := HT.out.snocB (HBQ.out.trans (hb6.mono hzq)) (HO2.out.below hb6 (Nat.le_refl _)) hz hg4 hV4 (fun G e => by have e : G' = G := (by simpa [Value.ownBlock] using e); subst e; rcases hG4 with h | h; exact .inl h; exact .inr (by omega))
          rw [← rowsTo_succ] at hsn
          have HSN := Lib.hid hsn
          have hgo := gb_trans (World.grownBy_alloc _ _ none) hg4
          have HB4 := Lib.hid ((HB.out.trans (HBQ.out.mono hz)).grown hgo (by omega) (fun r e => (hbl r e).1))
          clear hsn hg4 hV4 hgo hbl
          go_wp2
          go_roundw
          case rel => first
            | exact ⟨a + 1, _, by omega, by go_num, HB4.out, HSN.out, _, _, _, rfl⟩
            | ((repeat apply Exists.intro); exact ⟨⟨a + 1, _, by omega, by go_num, HB4.out, HSN.out, _, _, _, rfl⟩, rfl⟩)
          case measure => simp [intOf]; omega
    · have g0 : decide ((a : Int) < (n : Int)) = false := by simp; omega
      have e : a = n := by omega
      subst e
      go_wp2
      go_ret
      refine ⟨_, us, rfl, ?_, HBA.out.trans (HB.out.mono (by omega))⟩
      exact ⟨ownsRow_base HT.out.own (by omega), HT.out.len, fun k x hk => (HT.out.row k x hk).baseP (by omega), HT.out.ne, HT.out.inc⟩
end Go.Proofs.Ytahgialnhomefaa

namespace Go.Proofs.Ytahgialnhomefaa
open Go.RowKit Go.Maps
/-- An answer of a list and a code. -/
def RI (r : List Int × Int) (w : World) (e : Ending) (w' : World) : Prop := ∃ u, e = .returned (.tuple #[u, .int .i64 r.2]) ∧ ResI w' w.heap.size w'.heap.size u r.1 ∧ Below w.heap.size w w'
def turnF (v : Int) (bs : List Blk) (a : Int) : List Int × Int := if pcode 0 v bs [a] = 0 then (rowT v.toNat (prd 0 v.toNat bs) a.toNat, 0) else ([], pcode 0 v bs [a])
theorem pcode_v {v : Int} {bs : List Blk} {zs : List Int} (h : pcode 0 v bs zs = 0) : 3 ≤ v ∧ v ≤ 15 := by
  have := sys_size (pcode_zero h).1
  omega
theorem turnF_len (v : Int) (bs : List Blk) (a : Int) : (turnF v bs a).1.length ≤ 15 := by
  unfold turnF
  split
  · rename_i h
    have := pcode_v h
    rw [rowT_len]; omega
  · simp
set_option maxRecDepth 100000 in
set_option maxHeartbeats 1000000 in
theorem TurnOf_any (v : Int) (s : Value) (bs : List Blk) (a : Int) (w : World) (h : SB w s bs) :
    Calls Try.prog 28 #[.agg #[.int .i64 v, s], .int .i64 a] w (RI (turnF v bs a) w) := by
  have hs := h.slice
  have HPC := Lib.hid fun t W (hb : Below w.heap.size w W) ht => productCode_any 0 (.inl rfl) v s bs t [a] W (h.below hb (Nat.le_refl _)) ht
  by_cases hc : pcode 0 v bs [a] = 0
  · obtain ⟨hi, hf, hz⟩ := pcode_zero hc
    obtain ⟨hv3, hv15, _⟩ := sys_size hi
    obtain ⟨n, rfl⟩ : ∃ n : Nat, v = (n : Int) := ⟨v.toNat, by omega⟩
    have ha := hz a (by simp)
    obtain ⟨p, rfl⟩ : ∃ p : Nat, a = (p : Int) := ⟨a.toNat, by omega⟩
    have HV := Lib.hid (show turnF (n : Int) bs (p : Int) = (rowT n (prd 0 n bs) p, 0) by
      unfold turnF
      rw [if_pos hc]
      rfl)
    rw [HV.out]
    rw [hc] at HPC
    have HPT := Lib.hid fun W (hb : Below w.heap.size w W) => productTable_any 0 (.inl rfl) n s bs W (h.below hb (Nat.le_refl _)) hi
    have hp1 : p < n + 0 := by omega
    have g0 : (0 : Int) ≤ (p : Int) := by omega
    have g1 : (p : Int) < (n : Int) := by omega
    rw [Nat.add_zero] at hp1 HPT
    clear h hc hi hf hz ha hv3 hv15 HV
    obtain ⟨a0, c0, rfl⟩ := hs
    have HPX := Lib.hid (HPC.out _ ((w.alloc (.cells #[.int .i64 (n : Int), .slice a0 bs.length c0] 30)).alloc (.cells #[.int .i64 (p : Int)] 2)) (((Below.refl _ _).alloc (Nat.le_refl _) _).alloc (by simp) _) (lit_ib1 (w.alloc (.cells #[.int .i64 (n : Int), .slice a0 bs.length c0] 30)) p))
    rw [show ∀ o, (w.alloc o).heap.size = w.heap.size + 1 from fun o => by simp] at HPX
    clear HPC
    go_enter Try.func28, Try.ntmps28
    go_wp2_with fail
    refine HPX.out.mono ?_
    rintro e w1 ⟨rfl, hb1⟩
    have hB1 : Below w.heap.size w w1 := (((Below.refl _ _).alloc (Nat.le_refl _) _).alloc (by simp) _).trans (hb1.mono (by simp <;> omega))
    have d0 : w1.cell? ⟨w.heap.size, 0, none⟩ = some (.int .i64 (n : Int)) := (hb1.cell (p := ⟨w.heap.size, 0, none⟩) (by simp <;> omega)).trans (by simp [go_sem])
    have d1 : w1.cell? ⟨w.heap.size, 1, none⟩ = some (.slice a0 bs.length c0) := (hb1.cell (p := ⟨w.heap.size, 1, none⟩) (by simp <;> omega)).trans (by simp [go_sem])
    clear hb1
    go_wp2_with fail
    refine (HPT.out _ hB1).mono ?_
    rintro e w2 ⟨G, gs, caps, rfl, _, hb2, hS⟩
    have hB2 := hB1.trans (hb2.mono hB1.size)
    have hlow := hS.low p hp1
    have hrow := hS.row p hp1
    have e1 := hS.cell p hp1
    rw [rowT_len] at e1
    have hz1 := hB1.size
    have HR := Lib.hid hrow
    clear hb2 hS hrow
    go_wp2
    go_ret2
    refine ⟨_, rfl, ?_, hB2⟩
    have := HR.out.res (cap := caps p) (lo := w.heap.size) (by omega)
    rw [rowT_len] at this
    exact this
  · have HV := Lib.hid (show turnF v bs a = ([], pcode 0 v bs [a]) by
      unfold turnF
      rw [if_neg hc])
    rw [HV.out]
    obtain ⟨μ, hμ⟩ : ∃ μ, μ = pcode 0 v bs [a] := ⟨_, rfl⟩
    rw [← hμ] at hc HPC ⊢
    have q1 : (μ != 0) = true := by simpa using hc
    clear h hμ hc HV
    obtain ⟨a0, c0, rfl⟩ := hs
    have HPX := Lib.hid (HPC.out _ ((w.alloc (.cells #[.int .i64 v, .slice a0 bs.length c0] 30)).alloc (.cells #[.int .i64 a] 2)) (((Below.refl _ _).alloc (Nat.le_refl _) _).alloc (by simp) _) (lit_ib1 (w.alloc (.cells #[.int .i64 v, .slice a0 bs.length c0] 30)) a))
    rw [show ∀ o, (w.alloc o).heap.size = w.heap.size + 1 from fun o => by simp] at HPX
    clear HPC
    go_enter Try.func28, Try.ntmps28
    go_wp2_with fail
    refine HPX.out.mono ?_
    rintro e w1 ⟨rfl, hb1⟩
    have hB1 : Below w.heap.size w w1 := (((Below.refl _ _).alloc (Nat.le_refl _) _).alloc (by simp) _).trans (hb1.mono (by simp <;> omega))
    clear hb1
    go_wp2
    go_ret2
    exact ⟨_, rfl, .inl ⟨rfl, _, _, rfl⟩, hB1⟩
end Go.Proofs.Ytahgialnhomefaa

namespace Go.Proofs.Ytahgialnhomefaa
open Go.RowKit Go.Maps
theorem intKeyed : Keyed Try.prog 2 := int_keyed Try.underlying2
theorem int_key {a : Int} (ha : WF a) : ∃ kl, keyOf Try.prog 2 (.int .i64 a) = some kl := ⟨_, keyOf_int_mk Try.underlying2 ha⟩
def iv (a : Int) : Value := .int .i64 a
theorem iv_inj {a b : Int} (h : iv a = iv b) : a = b := by simpa [iv] using h
theorem take_snoc' {l : List Int} {k : Nat} (h : k < l.length) : l.take (k + 1) = l.take k ++ [l[k]?.getD 0] := by
  rw [List.take_succ_eq_append_getElem h]; simp [h]
end Go.Proofs.Ytahgialnhomefaa

namespace Go.Proofs.Ytahgialnhomefaa
open Go.RowKit Go.Maps
theorem place_drop {zs : List Int} {x : Int} {k : Nat} (hk : k < zs.length) (h : place zs x = plGo x (zs.drop k) k) : (zs[k]?.getD 0 = x → place zs x = k) ∧ (zs[k]?.getD 0 ≠ x → place zs x = plGo x (zs.drop (k + 1)) (k + 1)) := by
  have hdr : zs.drop k = (zs[k]?.getD 0) :: zs.drop (k + 1) := by rw [List.drop_eq_getElem_cons hk]; simp [hk]
  rw [hdr] at h
  refine ⟨fun e => ?_, fun e => ?_⟩
  · rw [h, plGo, if_pos e]
  · rw [h, plGo, if_neg e]
set_option maxRecDepth 100000 in
theorem Idx_any (s : Value) (zs : List Int) (x : Int) (w : World) (h : IB w s zs) : Calls Try.prog 111 #[s, .int .i64 x] w (RS (.int .i64 (place zs x)) w) := by
  obtain ⟨hlen, h3⟩ := h
  rcases h3 with ⟨a0, c0, rfl, rfl⟩ | ⟨b, off, cap, rfl, hlt, hI⟩
  · go_enter Try.func111, Try.ntmps111
    go_wp2
    refine wp_loop_rounds 1 ?_
    rw [rounds_succ]
    go_wp2
    go_ret
    exact RS_of rfl
  · have HI := Lib.hid hI
    clear hI
    go_enter Try.func111, Try.ntmps111
    go_wp2
    go_loop [8] (fun i => ∃ k : Nat, k ≤ zs.length ∧ i = .int .i64 k ∧ Hid (place zs x = plGo x (zs.drop k) k)) (fun i => zs.length - (intOf i).toNat)
    case atStart => exact ⟨0, Nat.zero_le _, rfl, Lib.hid (by simp [place])⟩
    case round =>
      obtain ⟨k, hk, rfl, HE⟩ := hrel
      by_cases hkl : k < zs.length
      · have c0 := HI.out k hkl
        obtain ⟨d1, d2⟩ := place_drop hkl HE.out
        obtain ⟨z, hz⟩ : ∃ z, z = zs[k]?.getD 0 := ⟨_, rfl⟩
        rw [← hz] at c0 d1 d2
        have D1 := Lib.hid d1
        have D2 := Lib.hid d2
        have g0 : (0 : Int) ≤ (k : Int) := by omega
        have g1 : (k : Int) < (zs.length : Int) := by omega
        clear hz d1 d2
        by_cases e : z = x
        · have q1 : (x == z) = true := by simpa using e.symm
          have q2 : decide (x = z) = true := by simpa using e.symm
          have HZ := Lib.hid (D1.out e)
          clear e
          go_wp2
          go_ret
          exact RS_of (int_eq (by rw [HZ.out]))
        · have q1 : (x == z) = false := by simpa using fun h => e h.symm
          have q2 : decide (x = z) = false := by simpa using fun h => e h.symm
          have HZ := Lib.hid (D2.out e)
          clear e
          go_wp2
          go_round
          case rel => exact ⟨k + 1, by omega, by go_num, HZ⟩
          case measure => simp [intOf]; omega
      · go_wp2
        go_ret
        exact RS_of (int_eq (by rw [HE.out, List.drop_eq_nil_of_le (by omega), plGo]))
set_option maxRecDepth 100000 in
theorem isNumberSet_any (v : Int) (s : Value) (zs : List Int) (w : World) (h : IB w s zs) : Calls Try.prog 106 #[.int .i64 v, s] w (RS (.bool (ptGo v none zs)) w) := by
  obtain ⟨hlen, h3⟩ := h
  rcases h3 with ⟨a0, c0, rfl, rfl⟩ | ⟨b, off, cap, rfl, hlt, hI⟩
  · go_enter Try.func106, Try.ntmps106
    go_wp2
    refine wp_loop_rounds 1 ?_
    rw [rounds_succ]
    go_wp2
    go_ret
    exact RS_of rfl
  · have HI := Lib.hid hI
    clear hI
    go_enter Try.func106, Try.ntmps106
    go_wp2
    go_loop [9] (fun i => ∃ k : Nat, k ≤ zs.length ∧ i = .int .i64 k ∧ Hid (ptGo v none zs = ptGo v (if k = 0 then none else zs[k - 1]?) (zs.drop k))) (fun i => zs.length - (intOf i).toNat)
    case atStart => exact ⟨0, Nat.zero_le _, rfl, Lib.hid (by simp)⟩
    case round =>
      obtain ⟨k, hk, rfl, HE⟩ := hrel
      by_cases hkl : k < zs.length
      · have c0 := HI.out k hkl
        have hdr : zs.drop k = (zs[k]?.getD 0) :: zs.drop (k + 1) := by rw [List.drop_eq_getElem_cons hkl]; simp [hkl]
        have hkk : zs[k]? = some (zs[k]?.getD 0) := by simp [hkl]
        obtain ⟨z, hz⟩ : ∃ z, z = zs[k]?.getD 0 := ⟨_, rfl⟩
        rw [← hz] at c0 hdr hkk
        have he := HE.out
        rw [hdr] at he
        have HKK := Lib.hid hkk
        have g0 : (0 : Int) ≤ (k : Int) := by omega
        have g1 : (k : Int) < (zs.length : Int) := by omega
        clear hz hdr hkk HE
        cases hin : inP v z with
        | false =>
          have HV := Lib.hid (show ptGo v none zs = false by rw [he]; unfold ptGo; rw [hin]; rfl)
          have hor : z < 0 ∨ v ≤ z := by simp [inP] at hin; omega
          by_cases hz0 : z < 0
          · have q0 : decide (z < 0) = true := decide_eq_true hz0
            clear hin he hor
            go_wp2
            go_ret
            exact RS_of (bool_eq (by rw [HV.out]))
          · have q0 : decide (z < 0) = false := decide_eq_false hz0
            have q1 : decide (v ≤ z) = true := decide_eq_true (by omega)
            clear hin he hor hz0
            go_wp2
            go_ret
            exact RS_of (bool_eq (by rw [HV.out]))
        | true =>
          have hor : 0 ≤ z ∧ z < v := by simpa [inP] using hin
          have p0 : decide (z < 0) = false := decide_eq_false (by omega)
          have p1 : decide (v ≤ z) = false := decide_eq_false (by omega)
          by_cases hk0 : k = 0
          · subst hk0
            have HV := Lib.hid (show ptGo v none zs = ptGo v (some z) (zs.drop 1) by rw [he]; simp [ptGo, hin])
            have gd : decide ((0 : Int) < ((0 : Nat) : Int)) = false := by decide
            have c1 : w.cell? ⟨b, off, none⟩ = some (.int .i64 z) := by simpa using c0
            clear c0
            clear hin hor he
            go_wp2
            go_round
            case rel => exact ⟨1, by omega, by go_num, Lib.hid (by rw [HV.out]; simp; rw [← HKK.out])⟩
            case measure => simp [intOf]; omega
          · obtain ⟨j, rfl⟩ : ∃ j, k = j + 1 := ⟨k - 1, by omega⟩
            have cj := HI.out j (by omega)
            have hj : zs[j]? = some (zs[j]?.getD 0) := by simp [show j < zs.length by omega]
            obtain ⟨y, hy⟩ : ∃ y, y = zs[j]?.getD 0 := ⟨_, rfl⟩
            rw [← hy] at cj hj
            have he2 : ptGo v none zs = (decide (y < z) && ptGo v (some z) (zs.drop (j + 1 + 1))) := by
              rw [he]
              simp only [Nat.add_one_ne_zero, if_false, Nat.add_sub_cancel]
              rw [hj]
              simp [ptGo, hin]
            have HV := Lib.hid he2
            have gd : decide ((0 : Int) < ((j + 1 : Nat) : Int)) = true := by simp <;> omega
            have gi : (0 : Int) < (j : Int) + 1 := by omega
            have gj0 : (0 : Int) ≤ (j : Int) := by omega
            have gj1 : (j : Int) < (zs.length : Int) := by omega
            have ej : ((j + 1 : Nat) : Int) - 1 = (j : Int) := by omega
            clear hin hor he he2 hy hj
            by_cases hyz : y < z
            · have q1 : decide (z ≤ y) = false := by simp; omega
              have HW := Lib.hid (show ptGo v none zs = ptGo v (some z) (zs.drop (j + 1 + 1)) by rw [HV.out]; simp [hyz])
              go_wp2
              go_round
              case rel => exact ⟨j + 1 + 1, by omega, by go_num, Lib.hid (by rw [HW.out]; simp only [Nat.add_one_ne_zero, if_false, Nat.add_sub_cancel]; rw [← HKK.out])⟩
              case measure => simp [intOf]; omega
            · have q1 : decide (z ≤ y) = true := by simp; omega
              have q2 : z ≤ y := by omega
              have HW := Lib.hid (show ptGo v none zs = false by rw [HV.out]; simp [hyz])
              clear hyz
              go_wp2
              go_ret
              exact RS_of (bool_eq (by rw [HW.out]))
      · go_wp2
        go_ret
        exact RS_of (bool_eq (by rw [HE.out, List.drop_eq_nil_of_le (by omega), ptGo]))
end Go.Proofs.Ytahgialnhomefaa

namespace Go.Proofs.Ytahgialnhomefaa
open Go.RowKit Go.Maps
def plO (pts : List Int) (z : Int) : List Int := if 0 ≤ place pts z then [place pts z] else []
def plK (pts : List Int) (x : Blk) : Nat → List Int
  | 0 => []
  | 1 => plO pts x.a
  | 2 => plO pts x.a ++ plO pts x.b
  | _ => plO pts x.a ++ plO pts x.b ++ plO pts x.c
theorem plO_len (pts : List Int) (z : Int) : (plO pts z).length ≤ 1 := by unfold plO; split <;> simp
theorem plK_len (pts : List Int) (x : Blk) (k : Nat) : (plK pts x k).length ≤ 3 := by
  have h1 := plO_len pts x.a
  have h2 := plO_len pts x.b
  have h3 := plO_len pts x.c
  unfold plK
  split <;> simp [List.length_append] <;> omega
theorem OwnJ.nil0 (W : World) (base : Nat) : OwnJ W base (.slice none 0 0) [] := ⟨rfl, .inl ⟨rfl, rfl⟩⟩
theorem OwnJ.formS {W : World} {base : Nat} {u : Value} {zs : List Int} (h : OwnJ W base u zs) : ∃ a c, u = .slice a zs.length c := by
  rcases h.2 with ⟨rfl, h0⟩ | ⟨g, cap, _, rfl, _⟩
  · exact ⟨_, _, by rw [h0]⟩
  · exact ⟨_, _, rfl⟩
end Go.Proofs.Ytahgialnhomefaa

namespace Go.Proofs.Ytahgialnhomefaa
open Go.RowKit Go.Maps Go.Shelf
/-- A list in memory, at an address. -/
def IA (w : World) (s : Value) (zs : List Int) : Prop := ∃ b off cap, s = .slice (some ⟨b, off, none⟩) zs.length cap ∧ b < w.heap.size ∧ Ints w b off zs
theorem IA.ib {w : World} {s : Value} {zs : List Int} (h : IA w s zs) (hl : zs.length ≤ 1100000) : IB w s zs := by
  obtain ⟨b, off, cap, e, h1, h2⟩ := h
  exact ⟨hl, .inr ⟨b, off, cap, e, h1, h2⟩⟩
theorem IA.below {w w' : World} {s : Value} {zs : List Int} (h : IA w s zs) {B : Nat} (hb : Below B w w') (hB : w.heap.size ≤ B) : IA w' s zs := by
  obtain ⟨b, off, cap, e, h1, h2⟩ := h
  exact ⟨b, off, cap, e, Nat.lt_of_lt_of_le h1 hb.size, h2.below hb (by omega)⟩
/-- Appending a list that may be empty. -/
theorem wpList_append_intsE {w : World} {ops : Array Oper} {rest : List Oper} {o : Oper} {a : Act} {Q : Exit → Act → World → Prop} (hgd : o.guard = none) (s x : Operand)
    (ho : o.op = .call { callee := .builtin .append, args := #[s, x], argTypes := #[38, 38] })
    (base G : Nat) (hs : a.eval s = .slice (some ⟨G, 0, none⟩) 0 0) (hown : OwnJ w base (.slice (some ⟨G, 0, none⟩) 0 0) []) (xv : Value) (ys : List Int) (hxv : a.eval x = xv) (hx : IA w xv ys) (hl : ys.length ≤ 3300000) (hbase : base ≤ w.heap.size)
    (h : ∀ (g cap : Nat) (w' : World), OwnJ w' base (.slice (some ⟨g, 0, none⟩) ys.length cap) ys → w.grownBy w' (some G) → wpList Try.prog ops Q rest (a.put o.dst (.slice (some ⟨g, 0, none⟩) ys.length cap)) w') : wpList Try.prog ops Q (o :: rest) a w := by
  obtain ⟨i0, hi, hz0, hz1, hz2⟩ := info_parts infoInt64
  obtain ⟨b0, off, c, rfl, _, c1⟩ := hx
  refine wpList_append_own w hgd s x 38 ho base 2 i0 _ 1 8 Try.underlying38 hi hz0 hz1 hz2 rfl (by decide) (.slice (some ⟨G, 0, none⟩) 0 0) 0 [] hs hown ⟨b0, off, none⟩ ys.length c (ys.map (Value.int .i64)) hxv (by simp) ?_ ?_ (by unfold maxLen; omega) (by omega) hbase ?_
  · intro j u hj
    rw [addr_at]
    rw [List.getElem?_map] at hj
    have hjl : j < ys.length := by
      rcases Nat.lt_or_ge j ys.length with h1 | h1
      · exact h1
      · rw [List.getElem?_eq_none h1] at hj; cases hj
    have := c1 j hjl
    rw [List.getElem?_eq_getElem hjl] at hj this
    simp at hj
    rw [← hj]
    simpa using this
  · intro u hu
    obtain ⟨y, _, rfl⟩ := List.mem_map.1 hu
    rfl
  · intro v' w' hown' hg hiff
    rw [Nat.zero_add, List.nil_append] at hown'
    have hf : ∃ g cap, v' = .slice (some ⟨g, 0, none⟩) ys.length cap := by
      rcases hown'.2 with ⟨h1, _⟩ | ⟨g, cap, cur, e, _⟩
      · have := hiff.1 h1
        simp at this
      · exact ⟨g, cap, e⟩
    obtain ⟨g, cap, rfl⟩ := hf
    refine h g cap w' ?_ hg
    unfold OwnJ
    exact hown'
theorem OwnJ.ia {W : World} {base g n cap : Nat} {zs : List Int} (h : OwnJ W base (.slice (some ⟨g, 0, none⟩) n cap) zs) (hl : zs.length ≤ 1100000) : IA W (.slice (some ⟨g, 0, none⟩) n cap) zs := by
  have hib := h.ib hl
  rcases hib.2 with ⟨a, c, e, hnil⟩ | ⟨b, off, cap', e, h1, h2⟩
  · subst hnil
    simp at e
    rcases h.2 with ⟨h1, _⟩ | ⟨g', cap', cur, h1, _, h2, _⟩
    · simp at h1
    · simp at h1
      obtain ⟨rfl, _⟩ := h1
      refine ⟨g, 0, cap, by rw [e.2.1]; rfl, (Array.getElem?_eq_some_iff.1 h2).1, fun k hk => by simp at hk⟩
  · simp at e
    obtain ⟨⟨rfl, rfl⟩, rfl, rfl⟩ := e
    exact ⟨g, 0, cap, rfl, h1, h2⟩
set_option maxRecDepth 100000 in
theorem l01Own_any (s : Value) (zs : List Int) (w : World) (h : IA w s zs) (hl : zs.length ≤ 1100000) : Calls Try.prog 57 #[s] w (fun e w' => ∃ g cap, e = .returned (.slice (some ⟨g, 0, none⟩) zs.length cap) ∧ OwnJ w' w.heap.size (.slice (some ⟨g, 0, none⟩) zs.length cap) zs ∧ Below w.heap.size w w') := by
  have hform : ∃ a c, s = .slice a zs.length c := by obtain ⟨b, off, cap, rfl, _⟩ := h; exact ⟨_, _, rfl⟩
  have H := Lib.hid h
  obtain ⟨a, c, rfl⟩ := hform
  clear h
  have ho0 := OwnJ.new0 w (base := w.heap.size) (Nat.le_refl _)
  have hB0 : Below w.heap.size w (w.alloc (.cells #[] 2)) := (Below.refl _ _).alloc (Nat.le_refl _) _
  have HO0 := Lib.hid ho0
  have HB0 := Lib.hid hB0
  clear ho0 hB0
  go_enter Try.func57, Try.ntmps57
  go_wp2_with (at_builtin; refine wpList_append_intsE rfl _ _ rfl w.heap.size w.heap.size rfl HO0.out _ zs rfl (H.out.below HB0.out (Nat.le_refl _)) (by omega) (by simp) ?_; intro g cap w4 hO4 hg4)
  go_ret
  exact ⟨g, cap, rfl, hO4, HB0.out.grown hg4 (by simp) (fun r e => by cases e; exact Nat.le_refl _)⟩
end Go.Proofs.Ytahgialnhomefaa

namespace Go.Proofs.Ytahgialnhomefaa
open Go.RowKit Go.Maps
theorem ResI_low {w : World} {lo lo' hi : Nat} {s : Value} {zs : List Int} (h : ResI w lo hi s zs) (hl : lo' ≤ lo) : ResI w lo' hi s zs := by
  rcases h with h | ⟨g, cap, h1, h2, h3, h4⟩
  · exact .inl h
  · exact .inr ⟨g, cap, h1, by omega, h3, h4⟩
/-- The model's table as rows at their places. -/
theorem l09Tab_ssr {W : World} {lo n : Nat} {P : Nat → Nat → Int} {u : Value} {us : List Value} (h : TabL W lo u us (rowsTo n P n)) (h3 : 0 < n) (h15 : n ≤ 1000) : ∃ G c gs caps, u = .slice (some ⟨G, 0, none⟩) n c ∧ lo ≤ G ∧ SSR W lo G gs caps n (rowT n P) := by
  obtain ⟨G, c, gs, caps, h1, h2, h3'⟩ := h.ssr (by rw [rowsTo_len]; exact h3) (fun k hk => by rw [rowsTo_len] at hk; rw [rowsTo_at n P hk, rowT_len]; omega)
  rw [rowsTo_len] at h1 h3'
  exact ⟨G, c, gs, caps, h1, h2, h3'.congr fun k hk => rowsTo_at n P hk⟩
set_option maxRecDepth 100000 in
set_option maxHeartbeats 1000000 in
theorem specTurnOf_any (v : Int) (s : Value) (bs : List Blk) (a : Int) (w : World) (h : SB w s bs) :
    Calls Try.prog 27 #[.agg #[.int .i64 v, s], .int .i64 a] w (RI (turnF v bs a) w) := by
  have hs := h.slice
  have hc0 : ptsN v v bs [a] = pcode 0 v bs [a] := by rw [pcode_ptsN, show v + ((0 : Nat) : Int) = v by omega]
  have HPC := Lib.hid fun t W (hb : Below w.heap.size w W) ht => l09Points_any v v s bs t [a] W (h.below hb (Nat.le_refl _)) ht (fun hi => by have := sys_size hi; omega)
  rw [hc0] at HPC
  clear hc0
  by_cases hc : pcode 0 v bs [a] = 0
  · obtain ⟨hi, hf, hz⟩ := pcode_zero hc
    obtain ⟨hv3, hv15, _⟩ := sys_size hi
    obtain ⟨n, rfl⟩ : ∃ n : Nat, v = (n : Int) := ⟨v.toNat, by omega⟩
    have ha := hz a (by simp)
    obtain ⟨p, rfl⟩ : ∃ p : Nat, a = (p : Int) := ⟨a.toNat, by omega⟩
    have HV := Lib.hid (show turnF (n : Int) bs (p : Int) = (rowT n (prd 0 n bs) p, 0) by
      unfold turnF
      rw [if_pos hc]
      rfl)
    rw [HV.out]
    rw [hc] at HPC
    have HPT := Lib.hid fun W (hb : Below w.heap.size w W) => l09Table_any n s bs W (h.below hb (Nat.le_refl _)) hi hf
    have hp1 : p < n := by omega
    have g0 : (0 : Int) ≤ (p : Int) := by omega
    have g1 : (p : Int) < (n : Int) := by omega
    have hn3 : 0 < n := by omega
    have hn15 : n ≤ 1000 := by omega
    clear h hc hi hf hz ha hv3 hv15 HV
    obtain ⟨a0, c0, rfl⟩ := hs
    have HPX := Lib.hid (HPC.out _ ((w.alloc (.cells #[.int .i64 (n : Int), .slice a0 bs.length c0] 30)).alloc (.cells #[.int .i64 (p : Int)] 2)) (((Below.refl _ _).alloc (Nat.le_refl _) _).alloc (by simp) _) (lit_ib1 (w.alloc (.cells #[.int .i64 (n : Int), .slice a0 bs.length c0] 30)) p))
    rw [show ∀ o, (w.alloc o).heap.size = w.heap.size + 1 from fun o => by simp] at HPX
    obtain ⟨R, hR⟩ : ∃ R, R = prd 0 n bs := ⟨_, rfl⟩
    rw [← hR] at HPT ⊢
    clear HPC hR
    go_enter Try.func27, Try.ntmps27
    go_wp2_with fail
    refine HPX.out.mono ?_
    rintro e w1 ⟨rfl, hb1⟩
    have hB1 : Below w.heap.size w w1 := (((Below.refl _ _).alloc (Nat.le_refl _) _).alloc (by simp) _).trans (hb1.mono (by simp <;> omega))
    have d0 : w1.cell? ⟨w.heap.size, 0, none⟩ = some (.int .i64 (n : Int)) := (hb1.cell (p := ⟨w.heap.size, 0, none⟩) (by simp <;> omega)).trans (by simp [go_sem])
    have d1 : w1.cell? ⟨w.heap.size, 1, none⟩ = some (.slice a0 bs.length c0) := (hb1.cell (p := ⟨w.heap.size, 1, none⟩) (by simp <;> omega)).trans (by simp [go_sem])
    clear hb1
    go_wp2_with fail
    refine (HPT.out _ hB1).mono ?_
    rintro e w2 ⟨u, us, rfl, hT, hb2⟩
    have hB2 := hB1.trans (hb2.mono hB1.size)
    obtain ⟨G, c, gs, caps, rfl, _, hS⟩ := l09Tab_ssr hT hn3 hn15
    have e1 := hS.cell p hp1
    rw [rowT_len] at e1
    have hz2 := hB2.size
    have HR := Lib.hid (hS.row p hp1)
    have HIA : Hid (IA w2 (.slice (some ⟨gs p, 0, none⟩) n (caps p)) (rowT n R p)) := Lib.hid ⟨gs p, 0, caps p, by rw [rowT_len], HR.out.lt, HR.out.at_⟩
    have hll : (rowT n R p).length ≤ 1100000 := by rw [rowT_len]; omega
    have HOW := Lib.hid (l01Own_any _ _ w2 HIA.out hll)
    clear hb2 hS hT HR HIA
    go_wp2_with fail
    refine HOW.out.mono ?_
    rintro e w3 ⟨g, cap, rfl, hO, hb3⟩
    have hres := hO.res hll
    have hB3 := hB2.trans (hb3.mono hz2)
    have HRES := Lib.hid hres
    clear hO hb3 hres
    go_wp2
    go_ret2
    exact ⟨_, rfl, ResI_low HRES.out (by omega), hB3⟩
  · have HV := Lib.hid (show turnF v bs a = ([], pcode 0 v bs [a]) by
      unfold turnF
      rw [if_neg hc])
    rw [HV.out]
    obtain ⟨μ, hμ⟩ : ∃ μ, μ = pcode 0 v bs [a] := ⟨_, rfl⟩
    rw [← hμ] at hc HPC ⊢
    have q1 : (μ != 0) = true := by simpa using hc
    clear h hμ hc HV
    obtain ⟨a0, c0, rfl⟩ := hs
    have HPX := Lib.hid (HPC.out _ ((w.alloc (.cells #[.int .i64 v, .slice a0 bs.length c0] 30)).alloc (.cells #[.int .i64 a] 2)) (((Below.refl _ _).alloc (Nat.le_refl _) _).alloc (by simp) _) (lit_ib1 (w.alloc (.cells #[.int .i64 v, .slice a0 bs.length c0] 30)) a))
    rw [show ∀ o, (w.alloc o).heap.size = w.heap.size + 1 from fun o => by simp] at HPX
    clear HPC
    go_enter Try.func27, Try.ntmps27
    go_wp2_with fail
    refine HPX.out.mono ?_
    rintro e w1 ⟨rfl, hb1⟩
    have hB1 : Below w.heap.size w w1 := (((Below.refl _ _).alloc (Nat.le_refl _) _).alloc (by simp) _).trans (hb1.mono (by simp <;> omega))
    clear hb1
    go_wp2
    go_ret2
    exact ⟨_, rfl, .inl ⟨rfl, _, _, rfl⟩, hB1⟩
end Go.Proofs.Ytahgialnhomefaa

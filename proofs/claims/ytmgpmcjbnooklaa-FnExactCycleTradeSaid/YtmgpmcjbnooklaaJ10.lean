
/- impl.cyclesFrom. impl.thirdsOf. CyclesOf: the program. Renumbered systems, and systems of blocks in any order: plain. The contract of slices.Sort, laid at []int64. The program's blockFrom: three numbers in order. Cycle trades: plain, and the program's code. What a law over one system whose result is a system knows of the memory between two of its steps. -/
import Derived.Test.YtmgpmcjbnooklaaJ9
import Derived.StillTailTactics
import Derived.BigQuiet
import Derived.Shelf.SortM.Plain
import Derived.Ground.SlgmProg
import Derived.Test.YtmgpmcjbnooklaaProg
namespace Go.Proofs.Ytmgpmcjbnooklaa
open Go.RowKit Go.Maps
theorem inL_mem {p : Int} {l : List Int} : inL p l = true ↔ p ∈ l := by
  unfold inL
  rw [List.any_eq_true]
  constructor
  · rintro ⟨x, hx, e⟩
    have : p = x := by simpa using e
    exact this ▸ hx
  · intro h
    exact ⟨p, h, by simp⟩
theorem lit3J (W : World) (x y z : Int) {base : Nat} (hb : base ≤ W.heap.size) : OwnJ (W.alloc (.cells #[.int .i64 x, .int .i64 y, .int .i64 z] 2)) base (.slice (some ⟨W.heap.size, 0, none⟩) 3 3) [x, y, z] :=
  ⟨rfl, .inr ⟨W.heap.size, 3, #[.int .i64 x, .int .i64 y, .int .i64 z], rfl, hb, World.alloc_heap_new W _, Nat.le_refl _, by decide, rfl, rfl⟩⟩
theorem OwnJ.ints0 {w : World} {base sB k sc : Nat} {sl : List Int} (h : OwnJ w base (.slice (some ⟨sB, 0, none⟩) k sc) sl) (hl : sl.length ≤ 1100000) : Ints w sB 0 sl ∧ k = sl.length ∧ sB < w.heap.size ∧ base ≤ sB := by
  have hr := h.row sB rfl
  rcases h.res hl with ⟨_, a, c, e⟩ | ⟨g, cap, e, h1, h2, ho⟩
  · rcases h.2 with ⟨e2, _⟩ | ⟨g, cap, cur, e2, _⟩
    · cases e2
    · simp at e2
      have e3 := h.1
      cases e
      simp at e3
      have : sl = [] := List.length_eq_zero_iff.1 (by omega)
      subst this
      refine ⟨fun k hk => absurd hk (Nat.not_lt_zero k), rfl, ?_, hr⟩
      rcases h.2 with ⟨e5, _⟩ | ⟨g5, cap5, cur5, e5, _, hcur, _⟩
      · cases e5
      · simp at e5
        obtain ⟨rfl, _⟩ := e5
        exact (Array.getElem?_eq_some_iff.1 hcur).1
  · simp at e
    obtain ⟨rfl, rfl, _⟩ := e
    exact ⟨ho.at_, rfl, h2, hr⟩
theorem cyS_next_in {bs : List Blk} {a b k : Nat} (h : (k : Int) ∈ seen0 bs a b ++ (cyS bs a b k).flatten) : cyS bs a b (k + 1) = cyS bs a b k := by
  rw [show cyS bs a b (k + 1) = if (k : Int) ∈ seen0 bs a b ++ (cyS bs a b k).flatten then cyS bs a b k else cyS bs a b k ++ [cyc bs a b (k : Int)] from rfl, if_pos h]
theorem cyS_next_out {bs : List Blk} {a b k : Nat} (h : ¬ (k : Int) ∈ seen0 bs a b ++ (cyS bs a b k).flatten) : cyS bs a b (k + 1) = cyS bs a b k ++ [cyc bs a b (k : Int)] := by
  rw [show cyS bs a b (k + 1) = if (k : Int) ∈ seen0 bs a b ++ (cyS bs a b k).flatten then cyS bs a b k else cyS bs a b k ++ [cyc bs a b (k : Int)] from rfl, if_neg h]
theorem beyond_of {n k a b : Nat} {bs : List Blk} (hk : k < n) (h : ¬ (k : Int) ∈ seen0 bs a b ++ (cyS bs a b k).flatten) : Beyond n bs (a : Int) (b : Int) (k : Int) ∧ (k : Int) ∉ (cyS bs a b k).flatten := by
  simp only [seen0, List.mem_append, List.mem_cons, List.not_mem_nil, or_false, not_or] at h
  exact ⟨⟨by omega, h.1.1, h.1.2.1, h.1.2.2⟩, h.2⟩
theorem CyM.step1 {w w' : World} {base sB sc l g3 gS : Nat} {sl cy : List Int} {cv : Value} {m : Nat} {gs caps : Nat → Nat} {F : Nat → List Int} (h : CyM w base sB sc sl cv m gs caps F)
    (hg : w.grownBy w' (Value.slice (some ⟨sB, 0, none⟩) l sc).ownBlock) (he : (Value.slice (some ⟨sB, 0, none⟩) l sc).ownBlock = some gS ∨ gS = w.heap.size) (ho : OwnAtI w g3 cy) (hne : sB ≠ g3) :
    (gS = sB ∨ gS = w.heap.size) ∧ AccS w' base cv m gs caps F ∧ OwnAtI w' g3 cy := by
  refine ⟨?_, ?_, ?_⟩
  · rcases he with e | e
    · left
      simp [Value.ownBlock] at e
      exact e.symm
    · exact .inr e
  · exact h.acc.kept hg (.inr fun e => h.ne e) (fun j hj e => h.nr j hj (by simpa [Value.ownBlock] using e))
  · exact ho.kept hg (by simp [Value.ownBlock]; omega)
theorem CyM.step2 {w4 w5 w6 : World} {base sB N3 g3 gS capS gC capC : Nat} {sl : List Int} {cv : Value} {m : Nat} {gs gs' caps' : Nat → Nat} {F : Nat → List Int}
    (hO : OwnJ w4 base (.slice (some ⟨gS, 0, none⟩) sl.length capS) sl) (h45 : w4.grownBy w5 none) (h56 : w5.grownBy w6 cv.ownBlock) (he : cv.ownBlock = some gC ∨ gC = w5.heap.size)
    (hA : AccS w6 base (.slice (some ⟨gC, 0, none⟩) (m + 1) capC) (m + 1) gs' caps' F) (hgs : ∀ k, gs' k = if k = m then g3 else gs k) (hS : gS = sB ∨ gS = N3) (hxl : ∀ r, cv.ownBlock = some r → r < N3) (hne : cv.ownBlock ≠ some sB)
    (hg : ∀ j, j < m → gs j < N3 ∧ gs j ≠ sB) (h3 : g3 < N3 ∧ g3 ≠ sB) (hlt : gS < w4.heap.size) : CyM w6 base gS capS sl (.slice (some ⟨gC, 0, none⟩) (m + 1) capC) (m + 1) gs' caps' F := by
  have hcv : cv.ownBlock ≠ some gS := fun e => by
    rcases hS with rfl | rfl
    · exact hne e
    · exact Nat.lt_irrefl _ (hxl _ e)
  refine ⟨ownsRow_kept (ownsRow_kept hO h45 (.inl rfl)) h56 (.inr fun e => hcv e.symm), hA, ?_, fun k hk => ?_⟩
  · intro e
    have e : gC = gS := by simpa [Value.ownBlock] using e
    subst e
    rcases he with e | e
    · exact hcv e
    · have := h45.size; omega
  · rw [hgs]
    split
    · rcases hS with rfl | rfl
      · exact h3.2
      · omega
    · rcases hS with rfl | rfl
      · exact (hg k (by omega)).2
      · have := (hg k (by omega)).1; omega
theorem flat_le {l : List (List Int)} (h : ∀ r ∈ l, r.length ≤ 15) : l.flatten.length ≤ 15 * l.length := by
  induction l with
  | nil => simp
  | cons r l ih =>
    have h1 := h r List.mem_cons_self
    have h2 := ih fun x hx => h x (List.mem_cons_of_mem _ hx)
    simp only [List.flatten_cons, List.length_append, List.length_cons]
    omega
set_option maxRecDepth 100000 in
set_option maxHeartbeats 8000000 in
theorem cyclesFrom_any (G lo : Nat) (tgs tcaps : Nat → Nat) (n c : Nat) (bs : List Blk) (a b : Nat) (w : World) (h : SSR w lo G tgs tcaps n (rowT n (tabN bs))) (hi : isSysImpl (n : Int) bs = true) (hf : fullB (n : Int) bs = true) (ha : a < n) (hb : b < n) (hab : a ≠ b) :
    Calls Try.prog 102 #[.slice (some ⟨G, 0, none⟩) n c, .int .i64 (a : Int), .int .i64 (b : Int)] w (fun e w' => ∃ u, e = .returned u ∧ ResSS w' w.heap.size u (cyS bs a b n).length (rowsF (cyS bs a b n)) ∧ Below w.heap.size w w') := by
  have hn15 := (sys_size hi).2.1
  have HSS := Lib.hid h
  have HCF := Lib.hid fun (k : Nat) (hk : Beyond n bs (a : Int) (b : Int) (k : Int)) W (hb2 : Below w.heap.size w W) => (fun ok => cycleFrom_any G lo tgs tcaps n c bs a b k W (h.below hb2 (Nat.le_refl _)) hi hf ha hb hab hk (perN bs a b (k : Int)) ok.1 ok.2.1 ok.2.2.1 ok.2.2.2.1 ok.2.2.2.2) (perN_ok hi hf ha hb hab hk)
  have HCL := Lib.hid fun (k : Nat) (hk : Beyond n bs (a : Int) (b : Int) (k : Int)) => cyc_len hi hf ha hb hab hk
  have HRW := Lib.hid fun k (hk : k ≤ n) => flat_le (cyS_rows hi hf ha hb hab k hk)
  have o1 := h.cell a ha
  rw [rowT_len] at o1
  have z1 := (h.row a ha).at_ b (by rw [rowT_len]; exact hb)
  rw [rowT_at _ _ hb, Nat.zero_add] at z1
  obtain ⟨t0, ht0⟩ : ∃ t, t = third1 bs (a : Int) (b : Int) := ⟨_, rfl⟩
  rw [show tabN bs a b = t0 from by rw [ht0]; exact tab_third hi hf (by omega) (by omega) (by omega)] at z1
  have HSEEN := Lib.hid (show seen0 bs a b = [(a : Int), (b : Int), t0] by rw [ht0]; rfl)
  have g0 : (0 : Int) ≤ (a : Int) := by omega
  have g1 : (a : Int) < (n : Int) := by omega
  have g2 : (0 : Int) ≤ (b : Int) := by omega
  have g3 : (b : Int) < (n : Int) := by omega
  clear h hi hf ht0
  go_enter Try.func102, Try.ntmps102
  obtain ⟨W0, rfl⟩ : ∃ W0, W0 = w := ⟨_, rfl⟩
  go_wp2_with fail
  go_loopw [7, 8, 23] (fun sv cv i wr => ∃ (k sB sc : Nat) (gs caps : Nat → Nat), k ≤ n ∧ i = .int .i64 k ∧ sv = .slice (some ⟨sB, 0, none⟩) (seen0 bs a b ++ (cyS bs a b k).flatten).length sc ∧ CyM wr W0.heap.size sB sc (seen0 bs a b ++ (cyS bs a b k).flatten) cv (cyS bs a b k).length gs caps (rowsF (cyS bs a b n)) ∧ Below W0.heap.size W0 wr ∧ ∃ x y, cv = .slice x (cyS bs a b k).length y) (fun _ _ i _ => n - (intOf i).toNat)
  case atStart =>
    refine ⟨0, W0.heap.size, 3, fun _ => 0, fun _ => 0, Nat.zero_le _, rfl, rfl, ⟨?_, AccS.nil _ _ _ _ _, by simp [Value.ownBlock], fun k hk => absurd hk (Nat.not_lt_zero k)⟩, (Below.refl _ _).alloc (Nat.le_refl _) _, _, _, rfl⟩
    rw [show cyS bs a b 0 = [] from rfl, List.flatten_nil, List.append_nil, HSEEN.out]
    exact lit3J W0 _ _ _ (Nat.le_refl _)
  case round =>
    obtain ⟨k, sB, sc, gs, caps, hk, rfl, rfl, hM, hB, x0, y0, rfl⟩ := hrel
    have HB := Lib.hid hB
    have HM := Lib.hid hM
    have hz := hB.size
    have hsl := HRW.out k hk
    have hcl := cyS_len (bs := bs) (a := a) (b := b) k
    obtain ⟨sl, hsl'⟩ : ∃ sl, sl = seen0 bs a b ++ (cyS bs a b k).flatten := ⟨_, rfl⟩
    have hsll : sl.length ≤ 300 := by rw [hsl', List.length_append]; have : (seen0 bs a b).length = 3 := rfl; omega
    have hsl0 : 0 < sl.length := by rw [hsl', List.length_append]; have : (seen0 bs a b).length = 3 := rfl; omega
    obtain ⟨m, hm⟩ : ∃ m, m = (cyS bs a b k).length := ⟨_, rfl⟩
    have hm15 : m ≤ 15 := by omega
    rw [← hsl', ← hm] at HM
    rw [← hsl', ← hm]
    obtain ⟨hI, _, hsBlt, hsBb⟩ := HM.out.own.ints0 (by omega)
    clear hB hM hsl hcl
    by_cases hkl : k < n
    · have HCO := Lib.hid (Contains_any sB 0 sc sl (k : Int) wr hI (by omega))
      cases hin : inL (k : Int) sl with
      | true =>
        rw [hin] at HCO
        have HN := Lib.hid (cyS_next_in (bs := bs) (a := a) (b := b) (k := k) (by rw [← hsl']; exact inL_mem.1 hin))
        have HSL := Lib.hid hsl'
        have HMM := Lib.hid hm
        clear hin hsl' hm hI
        go_wp2_with fail
        refine HCO.out.mono ?_
        rintro e w2 ⟨rfl, rfl⟩
        go_wp2_with fail
        go_roundw
        case rel => exact ⟨k + 1, sB, sc, gs, caps, by omega, by go_num, by rw [HN.out, ← HSL.out], by rw [HN.out, ← HSL.out, ← HMM.out]; exact HM.out, HB.out, x0, y0, by rw [HN.out, ← HMM.out]⟩
        case measure => simp [intOf]; omega
      | false =>
        rw [hin] at HCO
        have hnot : ¬ (k : Int) ∈ seen0 bs a b ++ (cyS bs a b k).flatten := by rw [← hsl']; intro e; rw [inL_mem.2 e] at hin; cases hin
        have HN := Lib.hid (cyS_next_out hnot)
        have hbey := (beyond_of hkl hnot).1
        have HC := Lib.hid (HCF.out k hbey wr HB.out)
        have hcyl := HCL.out k hbey
        obtain ⟨R, hR⟩ := cyS_pre (bs := bs) (a := a) (b := b) (show k + 1 ≤ n by omega)
        have HF := Lib.hid (show rowsF (cyS bs a b n) m = cyc bs a b (k : Int) by
          unfold rowsF
          rw [hR, HN.out, hm, List.append_assoc, List.getElem?_append_right (Nat.le_refl _), Nat.sub_self]
          rfl)
        have HSL := Lib.hid hsl'
        have HMM := Lib.hid hm
        obtain ⟨cy, hcy⟩ : ∃ cy, cy = cyc bs a b (k : Int) := ⟨_, rfl⟩
        rw [show wkL bs a b (k : Int) (perN bs a b (k : Int)) = cy from hcy.symm] at HC
        rw [← hcy] at HF hcyl
        have HCY := Lib.hid hcy
        clear hin hsl' hm hI hnot hbey hR hcy
        go_wp2_with fail
        refine HCO.out.mono ?_
        rintro e w2 ⟨rfl, rfl⟩
        go_wp2_with fail
        refine HC.out.mono ?_
        rintro e w3 ⟨u3, rfl, ho3, hb3⟩
        obtain ⟨g3, cap3, rfl, hg3lo, hg3hi, hoA⟩ : ∃ g cap, u3 = .slice (some ⟨g, 0, none⟩) cy.length cap ∧ wr.heap.size ≤ g ∧ g < w3.heap.size ∧ OwnAtI w3 g cy := by
          rcases ho3.res (by omega) with ⟨e, _⟩ | h
          · rw [e] at hcyl; simp at hcyl
          · exact h
        have hM3 := HM.out.kept (gb_below hb3)
        have hz3 := hb3.size
        have HB3 := Lib.hid (HB.out.trans (hb3.mono hz))
        have hxlt : ∀ r, (Value.slice x0 m y0).ownBlock = some r → r < wr.heap.size := fun r e => (ownsRow_lt HM.out.acc.own r e).2
        have hglt : ∀ j, j < m → gs j < wr.heap.size := fun j hj => (HM.out.acc.row j hj).lt
        have hzb : W0.heap.size ≤ w3.heap.size := by omega
        have HM3 := Lib.hid hM3
        have HA3 := Lib.hid hoA
        have HXL := Lib.hid hxlt
        have HGL := Lib.hid hglt
        clear ho3 hb3 hM3 hoA hxlt hglt
        have hs3 : sB ≠ g3 := by omega
        have HS3 := Lib.hid hs3
        clear hs3
        go_wp2_with (first
          | (at_builtin; refine wpList_append_ints_at rfl _ _ rfl W0.heap.size _ sl rfl HM3.out.own hsl0 g3 0 cap3 cy rfl HA3.out.at_ (by omega) hzb ?_; intro gS capS w4 hoS hgS heS; have HST := Lib.hid (HM3.out.step1 hgS heS HA3.out HS3.out); have hz4 := hgS.size; have HS4 := Lib.hid hoS; have HG4 := Lib.hid hgS; clear hoS hgS heS)
          | (at_builtin; refine wpList_append_row_at rfl _ _ rfl W0.heap.size _ m gs caps (rowsF (cyS bs a b n)) rfl (HST.out.2.1.below ((Below.refl _ _).alloc (Nat.le_refl _) _) (Nat.le_refl _)) w4.heap.size 1 rfl g3 cap3 (by rw [HF.out]; simp [go_sem]) (by rw [HF.out]; exact HST.out.2.2.kept (World.grownBy_alloc _ _ none) (by simp)) (fun j hj => by have := HGL.out j hj; omega) (fun e => by have := HXL.out g3 e; omega) (by omega) (by omega) (by simp; omega) ?_; intro gC capC w6 haC hgC heC))
        have hsl2 : (sl ++ cy).length = sl.length + cy.length := List.length_append
        have hS4 := HS4.out
        rw [← hsl2] at hS4
        have h4lt := (hS4.ints0 (by omega)).2.2.1
        have hM6 := CyM.step2 (gs := gs) (g3 := g3) (N3 := w3.heap.size) hS4 (World.grownBy_alloc w4 _ none) hgC heC haC (fun _ => rfl) HST.out.1 (fun r e => by have := HXL.out r e; omega) HM.out.ne (fun j hj => ⟨by have := HGL.out j hj; omega, HM.out.nr j hj⟩) ⟨hg3hi, fun e => HS3.out e.symm⟩ h4lt
        have hrb : ∀ r, (Value.slice (some ⟨sB, 0, none⟩) sl.length sc).ownBlock = some r → W0.heap.size ≤ r := fun r e => by
          have h0 : sB = r := by simpa [Value.ownBlock] using e
          omega
        have hB6 : Below W0.heap.size W0 w6 := ((HB3.out.grown HG4.out hzb hrb).alloc (by omega) _).grown hgC (by simp; omega) (fun r e => (ownsRow_lt HM.out.acc.own r e).1)
        have hfl : seen0 bs a b ++ (cyS bs a b (k + 1)).flatten = sl ++ cy := by rw [HN.out, List.flatten_append, ← List.append_assoc, ← HSL.out, HCY.out]; simp
        have hln : (cyS bs a b (k + 1)).length = m + 1 := by rw [HN.out, List.length_append, ← HMM.out]; rfl
        have HFL := Lib.hid hfl
        have HLN := Lib.hid hln
        have HM6 := Lib.hid hM6
        have HB6 := Lib.hid hB6
        clear hM6 hB6 hfl hln hS4 hsl2
        go_roundw
        case rel => exact ⟨k + 1, gS, capS, _, _, by omega, by go_num, by rw [HFL.out, List.length_append], by rw [HFL.out, HLN.out]; exact HM6.out, HB6.out, _, _, by rw [HLN.out]⟩
        case measure => simp [intOf]; omega
    · have e : k = n := by omega
      subst e
      have hr := HM.out.acc.res
      rw [hm] at hr ⊢
      go_wp2
      go_ret
      exact ⟨_, rfl, hr, HB.out⟩
end Go.Proofs.Ytmgpmcjbnooklaa

namespace Go.Proofs.Ytmgpmcjbnooklaa
open Go.RowKit Go.Maps
set_option maxRecDepth 100000 in
set_option maxHeartbeats 8000000 in
theorem thirdsOf_any (n : Nat) (s : Value) (bs : List Blk) (w : World) (h : SB w s bs) (hi : isSysImpl (n : Int) bs = true) :
    Calls Try.prog 52 #[.agg #[.int .i64 (n : Int), s]] w (fun e w' => ∃ G gs caps, e = .returned (.slice (some ⟨G, 0, none⟩) n n) ∧ w.heap.size ≤ G ∧ Below w.heap.size w w' ∧ SSR w' w.heap.size G gs caps n (rowT n (tabN bs))) := by
  have hs := h.slice
  obtain ⟨hv3, hv15, hb35⟩ := sys_size hi
  have HI := Lib.hid hi
  have HG := Lib.hid (sys_good hi)
  have HSX := Lib.hid h.sx
  have hmr := mkRow n (by omega)
  have hmo := mkRows n (by omega)
  clear h hi
  obtain ⟨a0, c0, rfl⟩ := hs
  go_enter Try.func52, Try.ntmps52
  go_wp2_with fail
  obtain ⟨W1, hW1⟩ : ∃ W1, W1 = w.alloc (.cells #[.int .i64 (n : Int), .slice a0 bs.length c0] 31) := ⟨_, rfl⟩
  have hz1 : W1.heap.size = w.heap.size + 1 := by rw [hW1]; simp
  have p0 : W1.cell? ⟨w.heap.size, 0, none⟩ = some (.int .i64 (n : Int)) := by rw [hW1]; simp [go_sem]
  have p1 : W1.cell? ⟨w.heap.size, 1, none⟩ = some (.slice a0 bs.length c0) := by rw [hW1]; simp [go_sem]
  have HB1 := Lib.hid (show Below w.heap.size w W1 by rw [hW1]; exact (Below.refl _ _).alloc (Nat.le_refl _) _)
  rw [← hW1]
  clear hW1
  go_loopw [14] (fun i wr => ∃ (k : Nat) (gs caps : Nat → Nat), k ≤ n ∧ i = .int .i64 k ∧ Below (w.heap.size + 1) W1 wr ∧ w.heap.size + 1 < wr.heap.size ∧ SSR wr (w.heap.size + 1) (w.heap.size + 1) gs caps k (rowT n fun _ _ => 0) ∧ (∀ q, q < n → ∃ u, wr.cell? ⟨w.heap.size + 1, q, none⟩ = some u) ∧ (∀ o, wr.frozen? ⟨w.heap.size + 1, o, none⟩ = false)) (fun i _ => n - (intOf i).toNat)
  case atStart =>
    rw [← hz1]
    exact ⟨0, fun _ => 0, fun _ => 0, Nat.zero_le _, rfl, (Below.refl _ _).alloc (Nat.le_refl _) _, by simp, ⟨fun k hk => by omega, fun k hk => by omega, fun k hk => by omega, fun j k _ hk => by omega, fun k hk => by omega, by simp⟩, fun q hq => by rw [World.cell?_alloc_at _ _ _ _ rfl]; exact ⟨.slice none 0 0, by simp [madeCells, hq, Nat.mod_one]⟩, fun o => by simp⟩
  case round =>
    obtain ⟨k, gs, caps, hk, rfl, hB, hz, hS, hcs, hfz⟩ := hrel
    have HS := Lib.hid hS
    have HB := Lib.hid hB
    have r0 := (hB.cell (p := ⟨w.heap.size, 0, none⟩) (by simp)).trans p0
    have r1 := (hB.cell (p := ⟨w.heap.size, 1, none⟩) (by simp)).trans p1
    by_cases hkl : k < n
    · obtain ⟨u, hu⟩ := hcs k hkl
      have hf := hfz k
      have HC := Lib.hid hcs
      have HFZ := Lib.hid hfz
      have g0 : (0 : Int) ≤ (k : Int) := by omega
      have g1 : (k : Int) < (n : Int) := by omega
      clear hS hB hcs hfz
      obtain ⟨w1, hw1⟩ : ∃ w1, w1 = wr.alloc (.cells (madeCells #[.int .i64 0] n) 2) := ⟨_, rfl⟩
      have hb1 : Below wr.heap.size wr w1 := by rw [hw1]; exact (Below.refl _ _).alloc (Nat.le_refl _) _
      have ho1 : OwnAtI w1 wr.heap.size (List.replicate n 0) := by rw [hw1]; exact made_ints wr n _
      have hz2 : w1.heap.size = wr.heap.size + 1 := by rw [hw1]; simp
      have m1 : (wr.alloc (.cells (madeCells #[.int .i64 0] n) 2)).cell? ⟨w.heap.size + 1, k, none⟩ = some u := by rw [← hw1]; exact (hb1.cell (p := ⟨w.heap.size + 1, k, none⟩) hz).trans hu
      have f1 : (wr.alloc (.cells (madeCells #[.int .i64 0] n) 2)).frozen? ⟨w.heap.size + 1, k, none⟩ = false := by rw [← hw1]; exact (hb1.frozen (p := ⟨w.heap.size + 1, k, none⟩) hz).trans hf
      have HW := Lib.hid hw1
      have HB1 := Lib.hid hb1
      have HO1 := Lib.hid ho1
      clear hw1 hb1 ho1
      go_wp2_with fail
      rw [← HW.out] at m1 f1
      have hsw : (wr.setCell ⟨w.heap.size + 1, k, none⟩ (.slice (some ⟨wr.heap.size, 0, none⟩) n n)).alloc (.cells (madeCells #[.int .i64 0] n) 2) = w1.setCell ⟨w.heap.size + 1, k, none⟩ (.slice (some ⟨wr.heap.size, 0, none⟩) n n) := by rw [HW.out]; exact (World.setCell_alloc_past _ _ _ _ hz).symm
      rw [hsw]
      have hS1 := HS.out.below HB1.out (Nat.le_refl _)
      have hst := only_setCell (only_refl w1 (some (w.heap.size + 1))) (p := ⟨w.heap.size + 1, k, none⟩) rfl (.slice (some ⟨wr.heap.size, 0, none⟩) n n)
      go_roundw
      case rel =>
        refine ⟨k + 1, fun q => if q = k then wr.heap.size else gs q, fun q => if q = k then n else caps q, by omega, by go_num, (HB.out.trans (HB1.out.mono (by omega))).setCell (p := ⟨w.heap.size + 1, k, none⟩) (Nat.le_refl _) _, by simp [World.setCell]; omega, ⟨fun q hq => ?_, fun q hq => ?_, fun q hq => ?_, fun p q hpq hq => ?_, fun q hq => ?_, by simp [World.setCell]; omega⟩, fun q hq => ?_, fun o => by rw [World.frozen?_setCell]; exact (HB1.out.frozen (p := ⟨w.heap.size + 1, o, none⟩) hz).trans (HFZ.out o)⟩
        · by_cases e : q = k
          · subst e
            rw [World.cell?_setCell_same' _ _ _ (by rw [m1]; rfl)]
            simp [rowT_len]
          · rw [World.cell?_setCell_other _ _ _ _ (by simp <;> omega), hS1.cell q (by omega)]
            simp [e]
        · by_cases e : q = k
          · subst e
            simp only [if_pos]
            rw [rowT_zero]
            exact HO1.out.kept hst (by simp; omega)
          · simp only [if_neg e]
            exact (hS1.row q (by omega)).kept hst (by have := hS1.ne q (by omega); simpa using this)
        · by_cases e : q = k
          · simp only [if_pos e]; omega
          · simp only [if_neg e]; exact hS1.ne q (by omega)
        · have e1 : p ≠ k := by omega
          simp only [if_neg e1]
          by_cases e : q = k
          · simp only [if_pos e]
            exact Nat.ne_of_lt (HS.out.row p (by omega)).lt
          · simp only [if_neg e]
            exact hS1.inc p q hpq (by omega)
        · by_cases e : q = k
          · simp only [if_pos e]; omega
          · simp only [if_neg e]; exact hS1.low q (by omega)
        · by_cases e : q = k
          · subst e
            exact ⟨_, World.cell?_setCell_same' _ _ _ (by rw [m1]; rfl)⟩
          · obtain ⟨u', hu'⟩ := HC.out q hq
            exact ⟨u', by rw [World.cell?_setCell_other _ _ _ _ (by simp <;> omega)]; exact (HB1.out.cell (p := ⟨w.heap.size + 1, q, none⟩) hz).trans hu'⟩
      case measure => simp [intOf]; omega
    · have e : k = n := by omega
      have dk : (n : Int) ≤ (k : Int) := by omega
      have dk2 : decide (k < n) = false := by simp; omega
      rw [e] at HS
      have HS0 := Lib.hid (HS.out.congr (F' := rowT n (tabN (bs.take 0))) (fun j _ => rowT_congr fun q _ => by simp [tabN, tabI]))
      clear e hkl hk hS hB hcs hfz HS
      obtain ⟨W2, rfl⟩ : ∃ W2, W2 = wr := ⟨_, rfl⟩
      go_wp2_with fail
      clear dk dk2
      go_loopw [27] (fun i wr => ∃ m : Nat, m ≤ bs.length ∧ i = .int .i64 m ∧ Below (w.heap.size + 1) W1 wr ∧ SSR wr (w.heap.size + 1) (w.heap.size + 1) gs caps n (rowT n (tabN (bs.take m)))) (fun i _ => bs.length - (intOf i).toNat)
      case atStart => exact ⟨0, Nat.zero_le _, rfl, HB.out, HS0.out⟩
      case round =>
        obtain ⟨m, hm, rfl, hB, hS⟩ := hrel
        have HBm := Lib.hid hB
        have HSm := Lib.hid hS
        have hzm := hB.size
        clear hB hS
        by_cases hml : m < bs.length
        · have hbw : Below w.heap.size w wr := HB1.out.trans (HBm.out.mono (by omega))
          rcases HSX.out with ⟨_, _, _, hnil⟩ | ⟨b, off, cap, hv, hblt, hbl⟩
          · rw [hnil] at hml; simp at hml
          simp at hv
          obtain ⟨rfl, rfl⟩ := hv
          obtain ⟨x, hx, ex, x1, x2, x3⟩ := blks_at (hbl.below hbw hblt) hml
          have hgx := goodB_iff.1 (HG.out x hx)
          obtain ⟨xa, xb, xc⟩ := x
          dsimp only at hgx x1 x2 x3
          obtain ⟨p, rfl⟩ := Int.eq_ofNat_of_zero_le hgx.1
          obtain ⟨q, rfl⟩ := Int.eq_ofNat_of_zero_le (show 0 ≤ xb by omega)
          obtain ⟨r, rfl⟩ := Int.eq_ofNat_of_zero_le (show 0 ≤ xc by omega)
          have hp : p < n := by omega
          have hq : q < n := by omega
          have hr : r < n := by omega
          have HSIX := Lib.hid (fun j k => six_tab HI.out hml ex (show p < q by omega) (show q < r by omega) j k)
          have i0 : (0 : Int) ≤ (m : Int) := by omega
          have i1 : (m : Int) < (bs.length : Int) := by omega
          have hB0 := hzm
          have TB0 : TBx W1 (wr.alloc (.cells #[.int .i64 (p : Int), .int .i64 (q : Int), .int .i64 (r : Int)] 68)) (w.heap.size + 1) (w.heap.size + 1) wr.heap.size gs caps n (tabN (bs.take m)) p q r :=
            ⟨HBm.out.alloc (by omega) _, HSm.out.below ((Below.refl _ _).alloc (Nat.le_refl _) _) (Nat.le_refl _), by simp [go_sem], by simp [go_sem], by simp [go_sem], fun j hj => (HSm.out.row j hj).lt⟩
          have HTB0 := Lib.hid TB0
          clear TB0 hgx hx ex hbl
          go_wp2_with fail
          obtain ⟨V0, hV0⟩ : ∃ V0, V0 = wr.alloc (.cells #[.int .i64 (p : Int), .int .i64 (q : Int), .int .i64 (r : Int)] 68) := ⟨_, rfl⟩
          rw [← hV0] at HTB0 ⊢
          clear hV0 x1 x2 x3
          refine wp_loop_rounds 4 ?_
          rw [rounds_succ]
          go_wp2_with fail
          refine wp_loop_rounds 4 ?_
          rw [rounds_succ]
          go_wp2_with fail
          rw [rounds_succ]
          go_wp2_with fail
          have c0 := HTB0.out.c0
          have c1 := HTB0.out.c1
          have c2 := HTB0.out.c2
          have o1 := HTB0.out.tab.cell p hp
          rw [rowT_len] at o1
          have s1 := (HTB0.out.tab.row p hp).at_ q (by rw [rowT_len]; exact hq)
          rw [Nat.zero_add] at s1
          have f1 := (HTB0.out.tab.row p hp).free q
          have HTB1 := Lib.hid (HTB0.out.step hp hq (r : Int))
          have k1 : IntKind.i64.wrap (3 - 0) = 3 := by decide
          have k2 : IntKind.i64.wrap (3 - 1) = 2 := by decide
          have k3 : IntKind.i64.wrap 2 = 2 := by decide
          have k4 : IntKind.i64.wrap 3 = 3 := by decide
          go_still_tail 16, (by kernel_rfl)
          change wpList _ _ _ _ _ V0.drew
          have s2 : V0.drew.cell? ⟨gs p, q, none⟩ = some _ := s1
          have f2 : V0.drew.frozen? ⟨gs p, q, none⟩ = false := f1
          clear c0 c1 c2 o1 s1 f1 k1 k2 k3 k4
          go_wp2_with fail
          obtain ⟨V1, hV1⟩ : ∃ V, V = (V0.setCell ⟨gs p, q, none⟩ (.int .i64 (r : Int))).drew := ⟨_, rfl⟩
          rw [← hV1] at HTB1 ⊢
          clear hV1 s2 f2 HTB0
          rw [rounds_succ]
          go_wp2_with fail
          have c0 := HTB1.out.c0
          have c1 := HTB1.out.c1
          have c2 := HTB1.out.c2
          have o1 := HTB1.out.tab.cell p hp
          rw [rowT_len] at o1
          have s1 := (HTB1.out.tab.row p hp).at_ r (by rw [rowT_len]; exact hr)
          rw [Nat.zero_add] at s1
          have f1 := (HTB1.out.tab.row p hp).free r
          have HTB2 := Lib.hid (HTB1.out.step hp hr (q : Int))
          have k1 : IntKind.i64.wrap (3 - 0) = 3 := by decide
          have k2 : IntKind.i64.wrap (3 - 2) = 1 := by decide
          have k3 : IntKind.i64.wrap 1 = 1 := by decide
          have k4 : IntKind.i64.wrap 3 = 3 := by decide
          go_still_tail 16, (by kernel_rfl)
          change wpList _ _ _ _ _ V1.drew
          have s2 : V1.drew.cell? ⟨gs p, r, none⟩ = some _ := s1
          have f2 : V1.drew.frozen? ⟨gs p, r, none⟩ = false := f1
          clear c0 c1 c2 o1 s1 f1 k1 k2 k3 k4
          go_wp2_with fail
          obtain ⟨V2, hV2⟩ : ∃ V, V = (V1.setCell ⟨gs p, r, none⟩ (.int .i64 (q : Int))).drew := ⟨_, rfl⟩
          rw [← hV2] at HTB2 ⊢
          clear hV2 s2 f2 HTB1
          rw [rounds_succ]
          go_wp2_with fail
          rw [rounds_succ]
          go_wp2_with fail
          refine wp_loop_rounds 4 ?_
          rw [rounds_succ]
          go_wp2_with fail
          have c0 := HTB2.out.c0
          have c1 := HTB2.out.c1
          have c2 := HTB2.out.c2
          have o1 := HTB2.out.tab.cell q hq
          rw [rowT_len] at o1
          have s1 := (HTB2.out.tab.row q hq).at_ p (by rw [rowT_len]; exact hp)
          rw [Nat.zero_add] at s1
          have f1 := (HTB2.out.tab.row q hq).free p
          have HTB3 := Lib.hid (HTB2.out.step hq hp (r : Int))
          have k1 : IntKind.i64.wrap (3 - 1) = 2 := by decide
          have k2 : IntKind.i64.wrap (2 - 0) = 2 := by decide
          have k3 : IntKind.i64.wrap 2 = 2 := by decide
          have k4 : IntKind.i64.wrap 2 = 2 := by decide
          go_still_tail 16, (by kernel_rfl)
          change wpList _ _ _ _ _ V2.drew
          have s2 : V2.drew.cell? ⟨gs q, p, none⟩ = some _ := s1
          have f2 : V2.drew.frozen? ⟨gs q, p, none⟩ = false := f1
          clear c0 c1 c2 o1 s1 f1 k1 k2 k3 k4
          go_wp2_with fail
          obtain ⟨V3, hV3⟩ : ∃ V, V = (V2.setCell ⟨gs q, p, none⟩ (.int .i64 (r : Int))).drew := ⟨_, rfl⟩
          rw [← hV3] at HTB3 ⊢
          clear hV3 s2 f2 HTB2
          rw [rounds_succ]
          go_wp2_with fail
          rw [rounds_succ]
          go_wp2_with fail
          have c0 := HTB3.out.c0
          have c1 := HTB3.out.c1
          have c2 := HTB3.out.c2
          have o1 := HTB3.out.tab.cell q hq
          rw [rowT_len] at o1
          have s1 := (HTB3.out.tab.row q hq).at_ r (by rw [rowT_len]; exact hr)
          rw [Nat.zero_add] at s1
          have f1 := (HTB3.out.tab.row q hq).free r
          have HTB4 := Lib.hid (HTB3.out.step hq hr (p : Int))
          have k1 : IntKind.i64.wrap (3 - 1) = 2 := by decide
          have k2 : IntKind.i64.wrap (2 - 2) = 0 := by decide
          have k3 : IntKind.i64.wrap 0 = 0 := by decide
          have k4 : IntKind.i64.wrap 2 = 2 := by decide
          go_still_tail 16, (by kernel_rfl)
          change wpList _ _ _ _ _ V3.drew
          have s2 : V3.drew.cell? ⟨gs q, r, none⟩ = some _ := s1
          have f2 : V3.drew.frozen? ⟨gs q, r, none⟩ = false := f1
          clear c0 c1 c2 o1 s1 f1 k1 k2 k3 k4
          go_wp2_with fail
          obtain ⟨V4, hV4⟩ : ∃ V, V = (V3.setCell ⟨gs q, r, none⟩ (.int .i64 (p : Int))).drew := ⟨_, rfl⟩
          rw [← hV4] at HTB4 ⊢
          clear hV4 s2 f2 HTB3
          rw [rounds_succ]
          go_wp2_with fail
          rw [rounds_succ]
          go_wp2_with fail
          refine wp_loop_rounds 4 ?_
          rw [rounds_succ]
          go_wp2_with fail
          have c0 := HTB4.out.c0
          have c1 := HTB4.out.c1
          have c2 := HTB4.out.c2
          have o1 := HTB4.out.tab.cell r hr
          rw [rowT_len] at o1
          have s1 := (HTB4.out.tab.row r hr).at_ p (by rw [rowT_len]; exact hp)
          rw [Nat.zero_add] at s1
          have f1 := (HTB4.out.tab.row r hr).free p
          have HTB5 := Lib.hid (HTB4.out.step hr hp (q : Int))
          have k1 : IntKind.i64.wrap (3 - 2) = 1 := by decide
          have k2 : IntKind.i64.wrap (1 - 0) = 1 := by decide
          have k3 : IntKind.i64.wrap 1 = 1 := by decide
          have k4 : IntKind.i64.wrap 1 = 1 := by decide
          go_still_tail 16, (by kernel_rfl)
          change wpList _ _ _ _ _ V4.drew
          have s2 : V4.drew.cell? ⟨gs r, p, none⟩ = some _ := s1
          have f2 : V4.drew.frozen? ⟨gs r, p, none⟩ = false := f1
          clear c0 c1 c2 o1 s1 f1 k1 k2 k3 k4
          go_wp2_with fail
          obtain ⟨V5, hV5⟩ : ∃ V, V = (V4.setCell ⟨gs r, p, none⟩ (.int .i64 (q : Int))).drew := ⟨_, rfl⟩
          rw [← hV5] at HTB5 ⊢
          clear hV5 s2 f2 HTB4
          rw [rounds_succ]
          go_wp2_with fail
          have c0 := HTB5.out.c0
          have c1 := HTB5.out.c1
          have c2 := HTB5.out.c2
          have o1 := HTB5.out.tab.cell r hr
          rw [rowT_len] at o1
          have s1 := (HTB5.out.tab.row r hr).at_ q (by rw [rowT_len]; exact hq)
          rw [Nat.zero_add] at s1
          have f1 := (HTB5.out.tab.row r hr).free q
          have HTB6 := Lib.hid (HTB5.out.step hr hq (p : Int))
          have k1 : IntKind.i64.wrap (3 - 2) = 1 := by decide
          have k2 : IntKind.i64.wrap (1 - 1) = 0 := by decide
          have k3 : IntKind.i64.wrap 0 = 0 := by decide
          have k4 : IntKind.i64.wrap 1 = 1 := by decide
          go_still_tail 16, (by kernel_rfl)
          change wpList _ _ _ _ _ V5.drew
          have s2 : V5.drew.cell? ⟨gs r, q, none⟩ = some _ := s1
          have f2 : V5.drew.frozen? ⟨gs r, q, none⟩ = false := f1
          clear c0 c1 c2 o1 s1 f1 k1 k2 k3 k4
          go_wp2_with fail
          obtain ⟨V6, hV6⟩ : ∃ V, V = (V5.setCell ⟨gs r, q, none⟩ (.int .i64 (p : Int))).drew := ⟨_, rfl⟩
          rw [← hV6] at HTB6 ⊢
          clear hV6 s2 f2 HTB5
          rw [rounds_succ]
          go_wp2_with fail
          rw [rounds_succ]
          go_wp2_with fail
          rw [rounds_succ]
          go_wp2_with fail
          go_roundw
          case rel => exact ⟨m + 1, by omega, by go_num, HTB6.out.below, HTB6.out.tab.congr fun j _ => rowT_congr fun q _ => HSIX.out j q⟩
          case measure => simp [intOf]; omega
        · have e : m = bs.length := by omega
          subst e
          rw [List.take_length] at HSm
          have hS := HSm.out
          go_wp2
          go_ret
          exact ⟨_, gs, caps, rfl, by omega, HB1.out.trans (HBm.out.mono (by omega)), ⟨hS.cell, hS.row, hS.ne, hS.inc, fun k hk => Nat.le_trans (by omega) (hS.low k hk), hS.lt⟩⟩
end Go.Proofs.Ytmgpmcjbnooklaa

namespace Go.Proofs.Ytmgpmcjbnooklaa
open Go.RowKit Go.Maps
def cyCode (v : Int) (bs : List Blk) (a b : Int) : Int := if isSysImpl v bs then (if inP v a && inP v b && !(a == b) then (if fullB v bs then 0 else 5) else 2) else 1
noncomputable def cyF (v : Int) (bs : List Blk) (a b : Int) : List (List Int) × Int := if cyCode v bs a b = 0 then (cyS bs a.toNat b.toNat v.toNat, 0) else ([], cyCode v bs a b)
end Go.Proofs.Ytmgpmcjbnooklaa

namespace Go.Proofs.Ytmgpmcjbnooklaa
/-- Each number is a point, and comes once. -/
def rnGo (v : Int) : List Int → List Int → Bool
  | _, [] => true
  | seen, a :: r => inP v a && !(decide (a ∈ seen)) && rnGo v (seen ++ [a]) r
def isRen (v : Int) (p : List Int) : Bool := decide ((p.length : Int) = v) && rnGo v [] p
theorem rnGo_in {v : Int} : ∀ {l seen : List Int}, rnGo v seen l = true → ∀ a ∈ l, inP v a = true
  | [], _, _, a, h => by cases h
  | b :: r, seen, h, a, ha => by
    simp only [rnGo, Bool.and_eq_true] at h
    rcases List.mem_cons.1 ha with rfl | ha
    · exact h.1.1
    · exact rnGo_in h.2 a ha
theorem rnGo_bad {v : Int} {a : Int} {r seen : List Int} (h : inP v a = false) : rnGo v seen (a :: r) = false := by simp [rnGo, h]
theorem rnGo_dup {v : Int} {a : Int} {r seen : List Int} (h : a ∈ seen) : rnGo v seen (a :: r) = false := by simp [rnGo, h]
theorem rnGo_next {v : Int} {a : Int} {r seen : List Int} (h : inP v a = true) (h2 : a ∉ seen) : rnGo v seen (a :: r) = rnGo v (seen ++ [a]) r := by simp [rnGo, h, h2]
def at0 (p : List Int) (a : Int) : Int := p[a.toNat]?.getD 0
def renB (p : List Int) (x : Blk) : Blk := blk3 (at0 p x.a) (at0 p x.b) (at0 p x.c)
/-- A system and a code: points, blocks, code. -/
def renF (v : Int) (bs : List Blk) (p : List Int) : Int × List Blk × Int :=
  if isSysImpl v bs then (if isRen v p then (v, sortB (bs.map (renB p)), 0) else (0, [], 2)) else (0, [], 1)
theorem renF_len (v : Int) (bs : List Blk) (p : List Int) : (renF v bs p).2.1.length ≤ bs.length := by
  unfold renF
  split
  · split
    · simp only [sortB_length, List.length_map]; exact Nat.le_refl _
    · simp
  · simp
theorem at0_in {v : Int} {p : List Int} (h : isRen v p = true) {a : Int} (h0 : 0 ≤ a) (h1 : a < v) : 0 ≤ at0 p a ∧ at0 p a < v := by
  unfold isRen at h
  simp only [Bool.and_eq_true, decide_eq_true_eq] at h
  have hl : a.toNat < p.length := by omega
  have := rnGo_in h.2 p[a.toNat] (List.getElem_mem hl)
  rw [inP] at this
  simp only [Bool.and_eq_true, decide_eq_true_eq] at this
  unfold at0
  rw [List.getElem?_eq_getElem hl]
  exact this
theorem blk3_in {v a b c : Int} (ha : 0 ≤ a ∧ a < v) (hb : 0 ≤ b ∧ b < v) (hc : 0 ≤ c ∧ c < v) : (0 ≤ (blk3 a b c).a ∧ (blk3 a b c).a < v) ∧ (0 ≤ (blk3 a b c).b ∧ (blk3 a b c).b < v) ∧ (0 ≤ (blk3 a b c).c ∧ (blk3 a b c).c < v) := by
  unfold blk3
  dsimp only
  omega
/-- The middle one. -/
theorem blk3_good {v a b c : Int} : goodB v (blk3 a b c) = true ↔ (0 ≤ a ∧ a < v) ∧ (0 ≤ b ∧ b < v) ∧ (0 ≤ c ∧ c < v) ∧ a ≠ b ∧ b ≠ c ∧ a ≠ c := by
  rw [goodB_iff]
  unfold blk3
  dsimp only
  omega
def b3 (x : Blk) : Blk := blk3 x.a x.b x.c
def sysOfF (v : Int) (bs : List Blk) : Int × List Blk × Int :=
  if decide (3 ≤ v) && decide (v ≤ 15) && decide (bs.length ≤ 35) && bs.all (fun x => goodB v (b3 x)) then
    (if shareGo [] (bs.map b3) then (0, [], 5) else (v, sortB (bs.map b3), 0))
  else (0, [], 2)
theorem sort3 (a b c : Int) : [a, b, c].mergeSort (fun x y => decide (x ≤ y)) = [(blk3 a b c).a, (blk3 a b c).b, (blk3 a b c).c] := by
  have hs : ([a, b, c].mergeSort (fun x y => decide (x ≤ y))).Pairwise (· ≤ ·) := by
    have := List.pairwise_mergeSort (le := fun x y : Int => decide (x ≤ y)) (fun x y z h1 h2 => by simp at *; omega) (fun x y => by simp; omega) [a, b, c]
    exact this.imp (by simp)
  have hp := List.mergeSort_perm [a, b, c] (fun x y : Int => decide (x ≤ y))
  have hs2 : [(blk3 a b c).a, (blk3 a b c).b, (blk3 a b c).c].Pairwise (· ≤ ·) := by
    unfold blk3
    simp
    omega
  have hp2 : [(blk3 a b c).a, (blk3 a b c).b, (blk3 a b c).c].Perm [a, b, c] := by
    unfold blk3
    dsimp only
    rw [List.perm_iff_count]
    intro x
    simp only [List.count_cons, List.count_nil, beq_iff_eq]
    by_cases h1 : a ≤ b <;> by_cases h2 : b ≤ c <;> by_cases h3 : a ≤ c <;> simp only [Int.min_def, Int.max_def, h1, h2, h3, if_true, if_false] <;> (try omega) <;> (repeat' split) <;> omega
  exact (hp.trans hp2.symm).eq_of_pairwise (fun x y _ _ h1 h2 => by omega) hs hs2
end Go.Proofs.Ytmgpmcjbnooklaa

namespace Go.Proofs
open Go.Shelf
def Try.sortI_ren : Go.Shelf.Ren := ⟨fun | 5 => 88 | 8 => 105 | 7 => 113 | 19 => 127 | 20 => 128 | 10 => 130 | 11 => 131 | 12 => 132 | 13 => 133 | 14 => 134 | 15 => 135 | 16 => 136 | 17 => 137 | 18 => 138 | 30 => 152 | 31 => 148 | 32 => 149 | 33 => 153 | 34 => 154 | 35 => 129 | 40 => 159 | n => n, fun | 23 => 26 | 25 => 2 | 3 => 3 | 32 => 114 | 22 => 26 | 0 => 0 | 44 => 139 | 46 => 104 | 4 => 4 | 36 => 132 | 35 => 131 | 41 => 136 | 5 => 5 | 9 => 9 | 53 => 152 | 57 => 156 | 63 => 162 | 64 => 163 | n => n, fun | n => n⟩
theorem Try.sortI : Go.Proofs.SlLaysM.n5 Try.prog Try.sortI_ren := {
  mixed := by kernel_rfl
  f5 := ⟨Try.f88.name, by decide, Try.func88.trans (congrArg some (by kernel_rfl))⟩
  f7 := ⟨Try.f113.name, by decide, Try.func113.trans (congrArg some (by kernel_rfl))⟩
  f8 := Try.func105.trans (congrArg some (by kernel_rfl))
  f10 := ⟨Try.f130.name, by decide, Try.func130.trans (congrArg some (by kernel_rfl))⟩
  f11 := ⟨Try.f131.name, by decide, Try.func131.trans (congrArg some (by kernel_rfl))⟩
  f12 := ⟨Try.f132.name, by decide, Try.func132.trans (congrArg some (by kernel_rfl))⟩
  f13 := ⟨Try.f133.name, by decide, Try.func133.trans (congrArg some (by kernel_rfl))⟩
  f14 := ⟨Try.f134.name, by decide, Try.func134.trans (congrArg some (by kernel_rfl))⟩
  f15 := ⟨Try.f135.name, by decide, Try.func135.trans (congrArg some (by kernel_rfl))⟩
  f16 := ⟨Try.f136.name, by decide, Try.func136.trans (congrArg some (by kernel_rfl))⟩
  f17 := ⟨Try.f137.name, by decide, Try.func137.trans (congrArg some (by kernel_rfl))⟩
  f18 := ⟨Try.f138.name, by decide, Try.func138.trans (congrArg some (by kernel_rfl))⟩
  f19 := Try.func127.trans (congrArg some (by kernel_rfl))
  f20 := Try.func128.trans (congrArg some (by kernel_rfl))
  f30 := ⟨Try.f152.name, by decide, Try.func152.trans (congrArg some (by kernel_rfl))⟩
  f31 := Try.func148.trans (congrArg some (by kernel_rfl))
  f32 := Try.func149.trans (congrArg some (by kernel_rfl))
  f33 := ⟨Try.f153.name, by decide, Try.func153.trans (congrArg some (by kernel_rfl))⟩
  f34 := ⟨Try.f154.name, by decide, Try.func154.trans (congrArg some (by kernel_rfl))⟩
  f35 := ⟨Try.f129.name, by decide, Try.func129.trans (congrArg some (by kernel_rfl))⟩
  f40 := ⟨Try.f159.name, by decide, Try.func159.trans (congrArg some (by kernel_rfl))⟩
  t0 := Try.underlying0
  a0 := Try.isAgg0
  z0 := Try.sizeOf0
  v0 := Try.zeroValue0
  t3 := Try.underlying3
  a3 := Try.isAgg3
  z3 := Try.sizeOf3
  v3 := Try.zeroValue3
  t4 := Try.underlying4
  a4 := Try.isAgg4
  z4 := Try.sizeOf4
  v4 := Try.zeroValue4
  t5 := Try.underlying5
  a5 := Try.isAgg5
  z5 := Try.sizeOf5
  v5 := Try.zeroValue5
  t9 := Try.underlying9
  a9 := Try.isAgg9
  z9 := Try.sizeOf9
  v9 := Try.zeroValue9
  t22 := Try.underlying26
  a22 := Try.isAgg26
  z22 := Try.sizeOf26
  v22 := Try.zeroValue26
  t23 := Try.underlying26
  a23 := Try.isAgg26
  z23 := Try.sizeOf26
  v23 := Try.zeroValue26
  t25 := Try.underlying2
  a25 := Try.isAgg2
  z25 := Try.sizeOf2
  v25 := Try.zeroValue2
  t32 := Try.underlying114
  a32 := Try.isAgg114
  z32 := Try.sizeOf114
  v32 := Try.zeroValue114
  t35 := Try.underlying131
  a35 := Try.isAgg131
  z35 := Try.sizeOf131
  v35 := Try.zeroValue131
  t36 := Try.underlying132
  a36 := Try.isAgg132
  z36 := Try.sizeOf132
  v36 := Try.zeroValue132
  t41 := Try.underlying136
  a41 := Try.isAgg136
  z41 := Try.sizeOf136
  v41 := Try.zeroValue136
  t44 := Try.underlying139
  a44 := Try.isAgg139
  z44 := Try.sizeOf139
  v44 := Try.zeroValue139
  t46 := Try.underlying104
  a46 := Try.isAgg104
  z46 := Try.sizeOf104
  v46 := Try.zeroValue104
  t53 := Try.underlying152
  a53 := Try.isAgg152
  z53 := Try.sizeOf152
  v53 := Try.zeroValue152
  t57 := Try.underlying156
  a57 := Try.isAgg156
  z57 := Try.sizeOf156
  v57 := Try.zeroValue156
  t63 := Try.underlying162
  a63 := Try.isAgg162
  z63 := Try.sizeOf162
  v63 := Try.zeroValue162
  t64 := Try.underlying163
  a64 := Try.isAgg163
  z64 := Try.sizeOf163
  v64 := Try.zeroValue163 }
end Go.Proofs

namespace Go.Proofs.Ytmgpmcjbnooklaa
open Go.RowKit Go.Maps Go.Sort Go.Shelf
theorem heap_put' {α : Type} [Inhabited α] (enc : α → Value) {w : World} {g n : Nat} {os : Array Obj} {cur : Array Value} {e : TypeId} {fr : Nat × Nat} (F : Array α) (hb : w.heap[g]? = some (.cells cur e fr)) :
    (grow (putRow enc (Sort.ahead w n) g 0 F) os).heap[g]? = some (.cells (putCells enc 0 F cur) e fr) := by
  have hg : g < w.heap.size := (Array.getElem?_eq_some_iff.1 hb).1
  rw [heap_grow_old _ _ (by simpa using hg)]
  simp [putRow, mapBlock, Sort.ahead, Array.getElem?_modify, hb, onCells]
theorem grownBy_put' {α : Type} [Inhabited α] (enc : α → Value) {w : World} {g n : Nat} {os : Array Obj} (F : Array α) : w.grownBy (grow (putRow enc (Sort.ahead w n) g 0 F) os) (some g) := by
  refine ⟨rfl, rfl, rfl, by simp, fun k hk hne => ?_⟩
  rw [heap_grow_old _ _ (by simpa using hk)]
  have : g ≠ k := fun e => hne (by rw [e])
  simp [putRow, mapBlock, Sort.ahead, Array.getElem?_modify, this]
theorem sort3_any (b : Nat) (x y z : Int) (w : World) (h : w.heap[b]? = some (.cells #[.int .i64 x, .int .i64 y, .int .i64 z] 68 (0, 0))) :
    Calls Try.prog 88 #[.slice (some ⟨b, 0, none⟩) 3 3] w fun e w' => e = .returned (.tuple #[]) ∧ w.grownBy w' (some b) ∧ w'.heap[b]? = some (.cells #[.int .i64 (blk3 x y z).a, .int .i64 (blk3 x y z).b, .int .i64 (blk3 x y z).c] 68 (0, 0)) := by
  have hlt : b < w.heap.size := (Array.getElem?_eq_some_iff.1 h).1
  have hH : Holds (Value.int .i64) w b 0 [x, y, z].toArray := by
    intro j hj
    simp at hj
    rw [Nat.zero_add]
    match j, hj with
    | 0, _ => exact ⟨by simp [World.cell?, h], by simp [World.frozen?, h]⟩
    | 1, _ => exact ⟨by simp [World.cell?, h], by simp [World.frozen?, h]⟩
    | 2, _ => exact ⟨by simp [World.cell?, h], by simp [World.frozen?, h]⟩
  have hS := AnyM.slices_Sort_int Try.sortI b 0 3 [x, y, z] w hH hlt (by simp)
  rw [sort3] at hS
  refine Calls.mono hS ?_
  rintro e w' ⟨rfl, n, os, rfl⟩
  refine ⟨rfl, grownBy_put' _ _, ?_⟩
  rw [heap_put' _ _ h]
  rfl
set_option maxRecDepth 100000 in
theorem blockFrom_any (b off c : Nat) (x y z : Int) (w : World) (h0 : w.cell? ⟨b, off, none⟩ = some (.int .i64 x)) (h1 : w.cell? ⟨b, off + 1, none⟩ = some (.int .i64 y)) (h2 : w.cell? ⟨b, off + 2, none⟩ = some (.int .i64 z)) :
    Calls Try.prog 53 #[.slice (some ⟨b, off, none⟩) 3 c] w (RV (bv (blk3 x y z)) w) := by
  obtain ⟨wx, hwx⟩ : ∃ wx, wx = (w.alloc (.cells #[.int .i64 0, .int .i64 0, .int .i64 0] 68)).alloc (.cells #[.int .i64 x, .int .i64 y, .int .i64 z] 68) := ⟨_, rfl⟩
  have hzx : wx.heap.size = w.heap.size + 1 + 1 := by rw [hwx]; simp
  have hbx : Below w.heap.size w wx := by rw [hwx]; exact ((Below.refl _ _).alloc (Nat.le_refl _) _).alloc (by simp) _
  have hh : wx.heap[w.heap.size + 1]? = some (.cells #[.int .i64 x, .int .i64 y, .int .i64 z] 68 (0, 0)) := by
    rw [hwx]
    have := World.alloc_heap_new (w.alloc (.cells #[.int .i64 0, .int .i64 0, .int .i64 0] 68)) (.cells #[.int .i64 x, .int .i64 y, .int .i64 z] 68)
    simpa using this
  have d0 : wx.heap[w.heap.size]? = some (.cells #[.int .i64 0, .int .i64 0, .int .i64 0] 68 (0, 0)) := by
    rw [hwx, Below.heap_alloc _ _ _ (by simp)]
    exact World.alloc_heap_new w _
  have HS := Lib.hid (sort3_any (w.heap.size + 1) x y z wx hh)
  have D0 := Lib.hid d0
  have HZX := Lib.hid hzx
  have HBX := Lib.hid hbx
  have HWX := Lib.hid hwx
  clear hh d0 hzx hbx hwx
  obtain ⟨r, hr⟩ : ∃ r, r = blk3 x y z := ⟨_, rfl⟩
  rw [← hr] at HS ⊢
  clear hr
  obtain ⟨ra, rb, rc⟩ := r
  have hat : ∀ W, (Instr.arrayAt 68 (.slice (some ⟨b, off, none⟩) 3 c)).run Try.prog W = .ok (.pointer (some ⟨b, off, none⟩)) W := fun W => by kernel_rfl
  have hblt : b < w.heap.size := by obtain ⟨ob, ho, _⟩ := cells_of_cell h0; exact (Array.getElem?_eq_some_iff.1 ho).1
  go_enter Try.func53, Try.ntmps53
  go_wp2_with fail
  rw [← HWX.out]
  refine HS.out.mono ?_
  rintro e w1 ⟨rfl, hg, hh⟩
  have hz := hg.size
  rw [HZX.out] at hz
  have hd := (hg.block w.heap.size (by rw [HZX.out]; omega) (by simp)).trans D0.out
  have hbw : Below w.heap.size w w1 := HBX.out.grown hg HBX.out.size (fun r e => by cases e; omega)
  have q0 : w1.cell? ⟨w.heap.size + 1, 0, none⟩ = some (.int .i64 ra) := by simp [World.cell?, hh]
  have q1 : w1.cell? ⟨w.heap.size + 1, 1, none⟩ = some (.int .i64 rb) := by simp [World.cell?, hh]
  have q2 : w1.cell? ⟨w.heap.size + 1, 2, none⟩ = some (.int .i64 rc) := by simp [World.cell?, hh]
  have e0 : w1.cell? ⟨w.heap.size, 0, none⟩ = some (.int .i64 0) := by simp [World.cell?, hd]
  have e1 : w1.cell? ⟨w.heap.size, 1, none⟩ = some (.int .i64 0) := by simp [World.cell?, hd]
  have e2 : w1.cell? ⟨w.heap.size, 2, none⟩ = some (.int .i64 0) := by simp [World.cell?, hd]
  have k0 : w1.frozen? ⟨w.heap.size, 0, none⟩ = false := by simp [World.frozen?, hd]
  have k1 : w1.frozen? ⟨w.heap.size, 1, none⟩ = false := by simp [World.frozen?, hd]
  have k2 : w1.frozen? ⟨w.heap.size, 2, none⟩ = false := by simp [World.frozen?, hd]
  clear hh hd hg
  go_wp2
  refine bodyPost_ret (v := bv ⟨ra, rb, rc⟩) (by simp [results, Try.results53, go_sem, bv, *]) rfl ⟨rfl, ?_⟩
  exact ((hbw.setCell (p := ⟨w.heap.size, 0, none⟩) (Nat.le_refl _) _).setCell (p := ⟨w.heap.size, 1, none⟩) (Nat.le_refl _) _).setCell (p := ⟨w.heap.size, 2, none⟩) (Nat.le_refl _) _
end Go.Proofs.Ytmgpmcjbnooklaa

namespace Go.Proofs.Ytmgpmcjbnooklaa
open Go.RowKit Go.Maps
/-- The blocks of the first k steps of a walk, those of one point and the other by turns. -/
def outC (bs : List Blk) (a b : Nat) (s : Int) (k : Nat) : List Blk := (List.range k).map fun i => blk3 (if i % 2 = 0 then (a : Int) else (b : Int)) (wk bs a b s i) (wk bs a b s (i + 1))
def inC (bs : List Blk) (a b : Nat) (s : Int) (k : Nat) : List Blk := (List.range k).map fun i => blk3 (if i % 2 = 0 then (b : Int) else (a : Int)) (wk bs a b s i) (wk bs a b s (i + 1))
theorem outC_succ (bs : List Blk) (a b : Nat) (s : Int) (k : Nat) : outC bs a b s (k + 1) = outC bs a b s k ++ [blk3 (if k % 2 = 0 then (a : Int) else (b : Int)) (wk bs a b s k) (wk bs a b s (k + 1))] := by simp [outC, List.range_succ]
theorem inC_succ (bs : List Blk) (a b : Nat) (s : Int) (k : Nat) : inC bs a b s (k + 1) = inC bs a b s k ++ [blk3 (if k % 2 = 0 then (b : Int) else (a : Int)) (wk bs a b s k) (wk bs a b s (k + 1))] := by simp [inC, List.range_succ]
theorem outC_len (bs : List Blk) (a b : Nat) (s : Int) (k : Nat) : (outC bs a b s k).length = k := by simp [outC]
theorem inC_len (bs : List Blk) (a b : Nat) (s : Int) (k : Nat) : (inC bs a b s k).length = k := by simp [inC]
/-- The point is on no block of the two points. -/
def offB (v : Int) (bs : List Blk) (a b p : Int) : Bool := inP v a && inP v b && !(a == b) && (inP v p && !(p == a) && !(p == b) && !(p == third1 bs a b))
def ctCode (v : Int) (bs : List Blk) (a b p : Int) : Int := if isSysImpl v bs then (if offB v bs a b p then (if fullB v bs then 0 else 5) else 2) else 1
noncomputable def ctF (v : Int) (bs : List Blk) (a b p : Int) : Int × (List Blk × List Blk) × Int :=
  if ctCode v bs a b p = 0 then (v, (sortB (outC bs a.toNat b.toNat p (perN bs a.toNat b.toNat p)), sortB (inC bs a.toNat b.toNat p (perN bs a.toNat b.toNat p))), 0) else (0, ([], []), ctCode v bs a b p)
theorem ct_good {v : Int} {bs : List Blk} {a b p : Int} (h : ctCode v bs a b p = 0) : isSysImpl v bs = true ∧ fullB v bs = true ∧ (0 ≤ a ∧ a < v) ∧ (0 ≤ b ∧ b < v) ∧ a ≠ b ∧ (0 ≤ p ∧ p < v) ∧ p ≠ a ∧ p ≠ b ∧ p ≠ third1 bs a b := by
  unfold ctCode at h
  cases h1 : isSysImpl v bs with
  | false => rw [h1] at h; simp at h
  | true =>
    cases h2 : offB v bs a b p with
    | false => rw [h1, h2] at h; simp at h
    | true =>
      cases h3 : fullB v bs with
      | false => rw [h1, h2, h3] at h; simp at h
      | true =>
        unfold offB inP at h2
        simp only [Bool.and_eq_true, decide_eq_true_eq, Bool.not_eq_true', beq_eq_false_iff_ne, ne_eq] at h2
        obtain ⟨⟨⟨h4, h5⟩, h6⟩, ⟨⟨h7, h8⟩, h9⟩, h10⟩ := h2
        exact ⟨rfl, rfl, h4, h5, h6, h7, h8, h9, h10⟩
theorem thirdV_cases (v : Int) (bs : List Blk) (a b : Int) : (isSysImpl v bs = false ∧ thirdV v bs a b = .tuple #[.int .i64 0, .int .i64 1]) ∨ (isSysImpl v bs = true ∧ (inP v a && inP v b && !(a == b)) = false ∧ thirdV v bs a b = .tuple #[.int .i64 0, .int .i64 2]) ∨
    (isSysImpl v bs = true ∧ (inP v a && inP v b && !(a == b)) = true ∧ ∃ z, third1 bs a b = z ∧ thirdV v bs a b = .tuple #[.int .i64 z, .int .i64 0]) ∨
    (isSysImpl v bs = true ∧ (inP v a && inP v b && !(a == b)) = true ∧ third1 bs a b = -1 ∧ thirdV v bs a b = .tuple #[.int .i64 0, .int .i64 4]) := by
  unfold thirdV third1
  cases isSysImpl v bs with
  | false => exact .inl ⟨rfl, rfl⟩
  | true =>
    right
    cases hab : (inP v a && inP v b) with
    | false => exact .inl ⟨rfl, by simp, by simp⟩
    | true =>
      by_cases e : a = b
      · exact .inl ⟨rfl, by simp [e], by simp [e]⟩
      · right
        cases hf : bs.find? (bothB a b) with
        | none => exact .inr ⟨rfl, by simp [e], rfl, by simp [e]⟩
        | some x => exact .inl ⟨rfl, by simp [e], _, rfl, by simp [e]⟩
set_option maxRecDepth 100000 in
set_option maxHeartbeats 2000000 in
theorem cycleTradeCode_any (v : Int) (s : Value) (bs : List Blk) (a b p : Int) (w : World) (h : SB w s bs) :
    Calls Try.prog 50 #[.agg #[.int .i64 v, s], .int .i64 a, .int .i64 b, .int .i64 p] w (RV (.int .i64 (ctCode v bs a b p)) w) := by
  have hs := h.slice
  have HT := Lib.hid fun W (hb : Below w.heap.size w W) => ThirdPoint_any v s bs a b W (h.below hb (Nat.le_refl _))
  have HP := Lib.hid fun W => isPointI_any v p W
  have HFC := Lib.hid fun (B : Nat) W (hb : Below w.heap.size w W) c0 c1 => fullCode_one B v s bs W (h.below hb (Nat.le_refl _)) c0 c1
  clear h
  obtain ⟨a0, c0, rfl⟩ := hs
  have hb0 : Below w.heap.size w (w.alloc (.cells #[.int .i64 v, .slice a0 bs.length c0] 31)) := (Below.refl _ _).alloc (Nat.le_refl _) _
  have HB0 := Lib.hid hb0
  clear hb0
  rcases thirdV_cases v bs a b with ⟨hi, ht⟩ | ⟨hi, hab, ht⟩ | ⟨hi, hab, z, hz, ht⟩ | ⟨hi, hab, hz, ht⟩
  · rw [ht] at HT
    have HV := Lib.hid (show ctCode v bs a b p = 1 by simp [ctCode, hi])
    clear hi ht
    go_enter Try.func50, Try.ntmps50
    go_wp2_with fail
    refine (HT.out _ HB0.out).mono ?_
    rintro e w1 ⟨rfl, hb1⟩
    have hb2 := below_new hb1
    clear hb1
    go_wp2
    go_ret
    exact RV_of (int_eq (by rw [HV.out])) hb2
  · rw [ht] at HT
    have HV := Lib.hid (show ctCode v bs a b p = 2 by simp only [ctCode, hi, offB, hab]; simp)
    clear hi ht hab
    go_enter Try.func50, Try.ntmps50
    go_wp2_with fail
    refine (HT.out _ HB0.out).mono ?_
    rintro e w1 ⟨rfl, hb1⟩
    have hb2 := below_new hb1
    clear hb1
    go_wp2
    go_ret
    exact RV_of (int_eq (by rw [HV.out])) hb2
  · rw [ht] at HT
    have HV := Lib.hid (show ctCode v bs a b p = if (inP v p && !(p == a) && !(p == b) && !(p == third1 bs a b)) then fullC v bs else 2 by simp only [ctCode, hi, offB, hab, fullC]; simp)
    rw [hz] at HV
    obtain ⟨κ, hκ⟩ : ∃ κ, κ = fullC v bs := ⟨_, rfl⟩
    rw [← hκ] at HV HFC
    clear hi ht hab hz hκ
    cases h0 : inP v p with
    | false =>
      have HW := Lib.hid (show ctCode v bs a b p = 2 by rw [HV.out, h0]; simp)
      rw [h0] at HP
      clear HV h0
      go_enter Try.func50, Try.ntmps50
      go_wp2_with fail
      refine (HT.out _ HB0.out).mono ?_
      rintro e w1 ⟨rfl, hb1⟩
      have hb2 := below_new hb1
      have q0 := cell_new hb1 0 rfl
      have q1 := cell_new hb1 1 rfl
      have HB2 := Lib.hid hb2
      have hz1 := hb2.size
      clear hb1 hb2
      go_wp2_with fail
      refine (HP.out _).mono ?_
      rintro e w2 ⟨rfl, rfl⟩
      go_wp2
      go_ret
      exact RV_of (int_eq (by rw [HW.out])) HB2.out
    | true =>
      cases h1 : (p == a) with
      | true =>
        have HW := Lib.hid (show ctCode v bs a b p = 2 by rw [HV.out, h0, h1]; simp)
        rw [h0] at HP
        clear HV h0
        go_enter Try.func50, Try.ntmps50
        go_wp2_with fail
        refine (HT.out _ HB0.out).mono ?_
        rintro e w1 ⟨rfl, hb1⟩
        have hb2 := below_new hb1
        have q0 := cell_new hb1 0 rfl
        have q1 := cell_new hb1 1 rfl
        have HB2 := Lib.hid hb2
        have hz1 := hb2.size
        clear hb1 hb2
        go_wp2_with fail
        refine (HP.out _).mono ?_
        rintro e w2 ⟨rfl, rfl⟩
        go_wp2
        go_ret
        exact RV_of (int_eq (by rw [HW.out])) HB2.out
      | false =>
        cases h2 : (p == b) with
        | true =>
          have HW := Lib.hid (show ctCode v bs a b p = 2 by rw [HV.out, h0, h1, h2]; simp)
          rw [h0] at HP
          clear HV h0
          go_enter Try.func50, Try.ntmps50
          go_wp2_with fail
          refine (HT.out _ HB0.out).mono ?_
          rintro e w1 ⟨rfl, hb1⟩
          have hb2 := below_new hb1
          have q0 := cell_new hb1 0 rfl
          have q1 := cell_new hb1 1 rfl
          have HB2 := Lib.hid hb2
          have hz1 := hb2.size
          clear hb1 hb2
          go_wp2_with fail
          refine (HP.out _).mono ?_
          rintro e w2 ⟨rfl, rfl⟩
          go_wp2
          go_ret
          exact RV_of (int_eq (by rw [HW.out])) HB2.out
        | false =>
          cases h3 : (p == z) with
          | true =>
            have HW := Lib.hid (show ctCode v bs a b p = 2 by rw [HV.out, h0, h1, h2, h3]; simp)
            rw [h0] at HP
            clear HV h0
            go_enter Try.func50, Try.ntmps50
            go_wp2_with fail
            refine (HT.out _ HB0.out).mono ?_
            rintro e w1 ⟨rfl, hb1⟩
            have hb2 := below_new hb1
            have q0 := cell_new hb1 0 rfl
            have q1 := cell_new hb1 1 rfl
            have HB2 := Lib.hid hb2
            have hz1 := hb2.size
            clear hb1 hb2
            go_wp2_with fail
            refine (HP.out _).mono ?_
            rintro e w2 ⟨rfl, rfl⟩
            go_wp2
            go_ret
            exact RV_of (int_eq (by rw [HW.out])) HB2.out
          | false =>
            have HW := Lib.hid (show ctCode v bs a b p = κ by rw [HV.out, h0, h1, h2, h3]; simp)
            rw [h0] at HP
            clear HV h0
            go_enter Try.func50, Try.ntmps50
            go_wp2_with fail
            refine (HT.out _ HB0.out).mono ?_
            rintro e w1 ⟨rfl, hb1⟩
            have hb2 := below_new hb1
            have q0 := cell_new hb1 0 rfl
            have q1 := cell_new hb1 1 rfl
            have HB2 := Lib.hid hb2
            have hz1 := hb2.size
            clear hb1 hb2
            go_wp2_with fail
            refine (HP.out _).mono ?_
            rintro e w2 ⟨rfl, rfl⟩
            go_wp2_with fail
            refine (HFC.out w1.heap.size (w1.alloc (.cells #[.int .i64 v, .slice a0 bs.length c0] 31)) (HB2.out.alloc HB2.out.size _) (by simp [go_sem]) (by simp [go_sem])).mono ?_
            rintro e w3 ⟨rfl, hb3⟩
            have hb4 := HB2.out.trans (below_new (cs := #[.int .i64 v, .slice a0 bs.length c0]) (T := 31) hb3 |>.mono hz1)
            clear hb3
            go_wp2
            go_ret
            exact RV_of (int_eq (by rw [HW.out])) hb4
  · rw [ht] at HT
    have HV := Lib.hid (show ctCode v bs a b p = if (inP v p && !(p == a) && !(p == b) && !(p == third1 bs a b)) then fullC v bs else 2 by simp only [ctCode, hi, offB, hab, fullC]; simp)
    rw [hz] at HV
    have hpz : inP v p = true → (p == (-1 : Int)) = false := fun e => by simp [inP] at e; simp; omega
    obtain ⟨κ, hκ⟩ : ∃ κ, κ = fullC v bs := ⟨_, rfl⟩
    rw [← hκ] at HV HFC
    clear hi ht hab hz hκ
    cases h0 : inP v p with
    | false =>
      have HW := Lib.hid (show ctCode v bs a b p = 2 by rw [HV.out, h0]; simp)
      rw [h0] at HP
      clear HV h0
      go_enter Try.func50, Try.ntmps50
      go_wp2_with fail
      refine (HT.out _ HB0.out).mono ?_
      rintro e w1 ⟨rfl, hb1⟩
      have hb2 := below_new hb1
      have q0 := cell_new hb1 0 rfl
      have q1 := cell_new hb1 1 rfl
      have HB2 := Lib.hid hb2
      have hz1 := hb2.size
      clear hb1 hb2
      go_wp2_with fail
      refine (HP.out _).mono ?_
      rintro e w2 ⟨rfl, rfl⟩
      go_wp2
      go_ret
      exact RV_of (int_eq (by rw [HW.out])) HB2.out
    | true =>
      cases h1 : (p == a) with
      | true =>
        have HW := Lib.hid (show ctCode v bs a b p = 2 by rw [HV.out, h0, h1]; simp)
        rw [h0] at HP
        clear HV h0
        go_enter Try.func50, Try.ntmps50
        go_wp2_with fail
        refine (HT.out _ HB0.out).mono ?_
        rintro e w1 ⟨rfl, hb1⟩
        have hb2 := below_new hb1
        have q0 := cell_new hb1 0 rfl
        have q1 := cell_new hb1 1 rfl
        have HB2 := Lib.hid hb2
        have hz1 := hb2.size
        clear hb1 hb2
        go_wp2_with fail
        refine (HP.out _).mono ?_
        rintro e w2 ⟨rfl, rfl⟩
        go_wp2
        go_ret
        exact RV_of (int_eq (by rw [HW.out])) HB2.out
      | false =>
        cases h2 : (p == b) with
        | true =>
          have HW := Lib.hid (show ctCode v bs a b p = 2 by rw [HV.out, h0, h1, h2]; simp)
          rw [h0] at HP
          clear HV h0
          go_enter Try.func50, Try.ntmps50
          go_wp2_with fail
          refine (HT.out _ HB0.out).mono ?_
          rintro e w1 ⟨rfl, hb1⟩
          have hb2 := below_new hb1
          have q0 := cell_new hb1 0 rfl
          have q1 := cell_new hb1 1 rfl
          have HB2 := Lib.hid hb2
          have hz1 := hb2.size
          clear hb1 hb2
          go_wp2_with fail
          refine (HP.out _).mono ?_
          rintro e w2 ⟨rfl, rfl⟩
          go_wp2
          go_ret
          exact RV_of (int_eq (by rw [HW.out])) HB2.out
        | false =>
          have h3 := hpz h0
          have HW := Lib.hid (show ctCode v bs a b p = κ by rw [HV.out, h0, h1, h2, h3]; simp)
          rw [h0] at HP
          clear HV h0
          go_enter Try.func50, Try.ntmps50
          go_wp2_with fail
          refine (HT.out _ HB0.out).mono ?_
          rintro e w1 ⟨rfl, hb1⟩
          have hb2 := below_new hb1
          have q0 := cell_new hb1 0 rfl
          have q1 := cell_new hb1 1 rfl
          have HB2 := Lib.hid hb2
          have hz1 := hb2.size
          clear hb1 hb2
          go_wp2_with fail
          refine (HP.out _).mono ?_
          rintro e w2 ⟨rfl, rfl⟩
          go_wp2_with fail
          refine (HFC.out w1.heap.size (w1.alloc (.cells #[.int .i64 v, .slice a0 bs.length c0] 31)) (HB2.out.alloc HB2.out.size _) (by simp [go_sem]) (by simp [go_sem])).mono ?_
          rintro e w3 ⟨rfl, hb3⟩
          have hb4 := HB2.out.trans (below_new (cs := #[.int .i64 v, .slice a0 bs.length c0]) (T := 31) hb3 |>.mono hz1)
          clear hb3
          go_wp2
          go_ret
          exact RV_of (int_eq (by rw [HW.out])) hb4
end Go.Proofs.Ytmgpmcjbnooklaa

namespace Go.Proofs.Ytmgpmcjbnooklaa
open Go.RowKit Go.Maps
structure CS (w : World) (v p : Int) (s sW s8 sG : Value) (XW X XG i0 i1 j1 j2 k1 k2 : Nat) (LW L8 LG : List Blk) (W : World) : Prop where
  st : St1 w v s W
  o0 : w.heap.size < i0
  o1 : i0 ≤ i1
  o2 : i1 ≤ XW
  o3 : XW < j1
  o4 : j1 ≤ j2
  o5 : j2 ≤ X
  o6 : X < k1
  o7 : k1 ≤ k2
  o8 : k2 ≤ XG
  rW : ResR W i0 i1 sW LW
  vW : VarB W XW p sW
  r8 : ResR W j1 j2 s8 L8
  vX : VarB W X v s8
  rG : ResR W k1 k2 sG LG
  vG : VarB W XG p sG
section
variable {w : World} {v p : Int} {s sW s8 sG : Value} {XW X XG i0 i1 j1 j2 k1 k2 : Nat} {LW L8 LG : List Blk} {W W' : World}
theorem CS.step (h : CS w v p s sW s8 sG XW X XG i0 i1 j1 j2 k1 k2 LW L8 LG W) (hg : W.grownBy W' none) : CS w v p s sW s8 sG XW X XG i0 i1 j1 j2 k1 k2 LW L8 LG W' :=
  ⟨h.st.step hg (by simp), h.o0, h.o1, h.o2, h.o3, h.o4, h.o5, h.o6, h.o7, h.o8, h.rW.kept hg (by simp), h.vW.step hg (by simp), h.r8.kept hg (by simp), h.vX.step hg (by simp), h.rG.kept hg (by simp), h.vG.step hg (by simp)⟩
theorem CS.mark8 (h : CS w v p s sW s8 sG XW X XG i0 i1 j1 j2 k1 k2 LW L8 LG W) {row : Option Nat} (hg : W.grownBy W' row) (hr : ∀ r, row = some r → j1 ≤ r ∧ r < j2) {L : List Blk} (hn : ResR W' j1 j2 s8 L) :
    CS w v p s sW s8 sG XW X XG i0 i1 j1 j2 k1 k2 LW L LG W' := by
  obtain ⟨st, o0, o1, o2, o3, o4, o5, o6, o7, o8, rW, vW, r8, vX, rG, vG⟩ := h
  exact ⟨st.step hg (fun r e => by have := hr r e; omega), o0, o1, o2, o3, o4, o5, o6, o7, o8, rW.kept hg (fun r e => by have := hr r e; omega), vW.step hg (fun e => by have := hr _ e; omega), hn, vX.step hg (fun e => by have := hr _ e; omega), rG.kept hg (fun r e => by have := hr r e; omega), vG.step hg (fun e => by have := hr _ e; omega)⟩
theorem CS.markG (h : CS w v p s sW s8 sG XW X XG i0 i1 j1 j2 k1 k2 LW L8 LG W) {row : Option Nat} (hg : W.grownBy W' row) (hr : ∀ r, row = some r → k1 ≤ r ∧ r < k2) {L : List Blk} (hn : ResR W' k1 k2 sG L) :
    CS w v p s sW s8 sG XW X XG i0 i1 j1 j2 k1 k2 LW L8 L W' := by
  obtain ⟨st, o0, o1, o2, o3, o4, o5, o6, o7, o8, rW, vW, r8, vX, rG, vG⟩ := h
  exact ⟨st.step hg (fun r e => by have := hr r e; omega), o0, o1, o2, o3, o4, o5, o6, o7, o8, rW.kept hg (fun r e => by have := hr r e; omega), vW.step hg (fun e => by have := hr _ e; omega), r8.kept hg (fun r e => by have := hr r e; omega), vX.step hg (fun e => by have := hr _ e; omega), hn, vG.step hg (fun e => by have := hr _ e; omega)⟩
end
end Go.Proofs.Ytmgpmcjbnooklaa


/- impl.DifferenceTrade. CycleTrade of the program. The model's pairs of blocks: l04Pair, l04Pairs, l04Same, l04Member. The model's CommonBlocks answers as the plain function commonF. -/
import Derived.Test.YtmgpmcjbnooklaaJ10
import Derived.Deep.DeepCutAuto
import Derived.Deep.RegionWith
import Derived.Deep.OwnRows
namespace Go.Proofs.Ytmgpmcjbnooklaa
open Go.RowKit Go.Maps
def diffF (v : Int) (bs : List Blk) (u : Int) (cs : List Blk) : Int × (List Blk × List Blk) × Int :=
  if isSysImpl v bs && isSysImpl u cs then (if decide (v = u) && samePr bs cs then (v, (lessL bs cs, lessL cs bs), 0) else (0, ([], []), 5)) else (0, ([], []), 1)
/-- The boxes of two systems and of the result. -/
structure BoxSST (w' : World) (b : Nat) (v : Int) (s : Value) (u : Int) (t : Value) : Prop where
  lt : b + 1 + 1 < w'.heap.size
  x0 : w'.cell? ⟨b, 0, none⟩ = some (.int .i64 v)
  x1 : w'.cell? ⟨b, 1, none⟩ = some s
  y0 : w'.cell? ⟨b + 1, 0, none⟩ = some (.int .i64 u)
  y1 : w'.cell? ⟨b + 1, 1, none⟩ = some t
  z0 : w'.cell? ⟨b + 1 + 1, 0, none⟩ = some (.int .i64 0)
  z1 : w'.cell? ⟨b + 1 + 1, 1, none⟩ = some (.slice none 0 0)
  z2 : w'.cell? ⟨b + 1 + 1, 2, none⟩ = some (.slice none 0 0)
  f0 : w'.frozen? ⟨b + 1 + 1, 0, none⟩ = false
  f1 : w'.frozen? ⟨b + 1 + 1, 1, none⟩ = false
  f2 : w'.frozen? ⟨b + 1 + 1, 2, none⟩ = false
def wSST (w : World) (v : Int) (s : Value) (u : Int) (t : Value) : World := ((w.alloc (.cells #[.int .i64 v, s] 31)).alloc (.cells #[.int .i64 u, t] 31)).alloc (.cells #[.int .i64 0, .slice none 0 0, .slice none 0 0] 39)
theorem BoxSST.new (w : World) (v : Int) (s : Value) (u : Int) (t : Value) : BoxSST (wSST w v s u t) w.heap.size v s u t := by
  unfold wSST
  constructor <;> simp [go_sem]
theorem wSST_below (w : World) (v : Int) (s : Value) (u : Int) (t : Value) : Below w.heap.size w (wSST w v s u t) := (((Below.refl _ _).alloc (Nat.le_refl _) _).alloc (by simp) _).alloc (by simp; omega) _
theorem BoxSST.below {w w' : World} {b : Nat} {v : Int} {s : Value} {u : Int} {t : Value} (h : BoxSST w b v s u t) (hb : Below w.heap.size w w') : BoxSST w' b v s u t := by
  have hl := h.lt
  exact ⟨Nat.lt_of_lt_of_le hl hb.size, (hb.cell (p := ⟨b, 0, none⟩) (by show b < _; omega)).trans h.x0, (hb.cell (p := ⟨b, 1, none⟩) (by show b < _; omega)).trans h.x1, (hb.cell (p := ⟨b + 1, 0, none⟩) (by show b + 1 < _; omega)).trans h.y0, (hb.cell (p := ⟨b + 1, 1, none⟩) (by show b + 1 < _; omega)).trans h.y1,
    (hb.cell (p := ⟨b + 1 + 1, 0, none⟩) hl).trans h.z0, (hb.cell (p := ⟨b + 1 + 1, 1, none⟩) hl).trans h.z1, (hb.cell (p := ⟨b + 1 + 1, 2, none⟩) hl).trans h.z2,
    (hb.frozen (p := ⟨b + 1 + 1, 0, none⟩) hl).trans h.f0, (hb.frozen (p := ⟨b + 1 + 1, 1, none⟩) hl).trans h.f1, (hb.frozen (p := ⟨b + 1 + 1, 2, none⟩) hl).trans h.f2⟩
theorem RTrd.of' {w W : World} {X lo : Nat} {so si : Value} {r : Int × (List Blk × List Blk) × Int} {p κ : Int} (hB : Below w.heap.size w W) (hr : ResT W lo W.heap.size so r.2.1.1 si r.2.1.2) (hX : w.heap.size ≤ X) (hlo : X < lo) (h1 : p = r.1) (h2 : κ = r.2.2) (u v x : Value) :
    RTrd r w (.returned (.tuple #[.agg #[.int .i64 p, so, si], .int .i64 κ])) (set3 W X u v x) := by
  subst h1 h2
  have hg := set3_gb W X u v x
  refine ⟨so, si, rfl, ?_, hB.grown hg hB.size (fun r e => by cases e; omega)⟩
  have e : (set3 W X u v x).heap.size = W.heap.size := by simp [set3]
  rw [e]
  exact (hr.kept hg (fun r e => by cases e; omega)).wide (by omega) (Nat.le_refl _)
theorem RTrd.no' {w W : World} {X : Nat} (hB : Below w.heap.size w W) (hX : w.heap.size ≤ X) (κ : Int) (u v x : Value) : RTrd (0, ([], []), κ) w (.returned (.tuple #[.agg #[.int .i64 0, .slice none 0 0, .slice none 0 0], .int .i64 κ])) (set3 W X u v x) := by
  have hg := set3_gb W X u v x
  refine ⟨_, _, rfl, ?_, hB.grown hg hB.size (fun r e => by cases e; omega)⟩
  have := ResT.nil (set3 W X u v x) (set3 W X u v x).heap.size
  exact this.wide (Nat.le_trans hB.size hg.size) (Nat.le_refl _)
end Go.Proofs.Ytmgpmcjbnooklaa

namespace Go.Proofs.Ytmgpmcjbnooklaa
open Go.RowKit Go.Maps
theorem TwoR.res {w : World} {base : Nat} {s t : Value} {bs cs : List Blk} (h : TwoR w base s bs t cs) (hb : base ≤ w.heap.size) : ResT w base w.heap.size s bs t cs := by
  rcases h.one.res with ⟨e, a, c, hs⟩ | ⟨g1, cap1, hs, h1, h2, ho1⟩
  · exact ⟨base, base, base, w.heap.size, Nat.le_refl _, hb, Nat.le_refl _, Nat.le_refl _, .inl (Nat.le_refl _), .inl ⟨e, a, c, hs⟩, h.two.res⟩
  · rcases h.two.res with ⟨e', a', c', ht⟩ | ⟨g2, cap2, ht, k1, k2, ho2⟩
    · exact ⟨base, w.heap.size, w.heap.size, w.heap.size, Nat.le_refl _, Nat.le_refl _, hb, Nat.le_refl _, .inl (Nat.le_refl _), h.one.res, .inl ⟨e', a', c', ht⟩⟩
    · have hne : g1 ≠ g2 := fun e => h.ne g1 (by rw [hs]; rfl) (by rw [ht, e]; rfl)
      exact ⟨g1, g1 + 1, g2, g2 + 1, h1, h2, k1, k2, by omega, .inr ⟨g1, cap1, hs, Nat.le_refl _, Nat.lt_succ_self _, ho1⟩, .inr ⟨g2, cap2, ht, Nat.le_refl _, Nat.lt_succ_self _, ho2⟩⟩
/-- A system's box and that of the result, a trade. -/
structure BoxCT (w' : World) (b : Nat) (v : Int) (s : Value) : Prop where
  lt : b + 1 < w'.heap.size
  x0 : w'.cell? ⟨b, 0, none⟩ = some (.int .i64 v)
  x1 : w'.cell? ⟨b, 1, none⟩ = some s
  y0 : w'.cell? ⟨b + 1, 0, none⟩ = some (.int .i64 0)
  y1 : w'.cell? ⟨b + 1, 1, none⟩ = some (.slice none 0 0)
  y2 : w'.cell? ⟨b + 1, 2, none⟩ = some (.slice none 0 0)
  g0 : w'.frozen? ⟨b + 1, 0, none⟩ = false
  g1 : w'.frozen? ⟨b + 1, 1, none⟩ = false
  g2 : w'.frozen? ⟨b + 1, 2, none⟩ = false
def wCT (w : World) (v : Int) (s : Value) : World := (w.alloc (.cells #[.int .i64 v, s] 31)).alloc (.cells #[.int .i64 0, .slice none 0 0, .slice none 0 0] 39)
theorem BoxCT.new (w : World) (v : Int) (s : Value) : BoxCT (wCT w v s) w.heap.size v s := by
  unfold wCT
  constructor <;> simp [go_sem]
theorem wCT_below (w : World) (v : Int) (s : Value) : Below w.heap.size w (wCT w v s) := ((Below.refl _ _).alloc (Nat.le_refl _) _).alloc (by simp) _
theorem BoxCT.later {w w' : World} {b B : Nat} {v : Int} {s : Value} (h : BoxCT w b v s) (hb : Below B w w') (hB : b + 1 < B) : BoxCT w' b v s := by
  have hl := h.lt
  exact ⟨Nat.lt_of_lt_of_le hl hb.size, (hb.cell (p := ⟨b, 0, none⟩) (by show b < _; omega)).trans h.x0, (hb.cell (p := ⟨b, 1, none⟩) (by show b < _; omega)).trans h.x1,
    (hb.cell (p := ⟨b + 1, 0, none⟩) (by show b + 1 < _; omega)).trans h.y0, (hb.cell (p := ⟨b + 1, 1, none⟩) (by show b + 1 < _; omega)).trans h.y1, (hb.cell (p := ⟨b + 1, 2, none⟩) (by show b + 1 < _; omega)).trans h.y2,
    (hb.frozen (p := ⟨b + 1, 0, none⟩) (by show b + 1 < _; omega)).trans h.g0, (hb.frozen (p := ⟨b + 1, 1, none⟩) (by show b + 1 < _; omega)).trans h.g1, (hb.frozen (p := ⟨b + 1, 2, none⟩) (by show b + 1 < _; omega)).trans h.g2⟩
theorem TwoR.nil (w : World) (base : Nat) : TwoR w base (.slice none 0 0) [] (.slice none 0 0) [] := ⟨OwnR.nil _ _, OwnR.nil _ _, fun r e => by simp [Value.ownBlock] at e⟩
theorem wk_next {bs : List Blk} {a b : Nat} {s : Int} {N k : Nat} (h : wk bs a b s N = s) (hk : k < N) : ∃ m : Nat, m < N ∧ ((k : Int) + 1) % (N : Int) = (m : Int) ∧ wk bs a b s m = wk bs a b s (k + 1) := by
  by_cases e : k + 1 = N
  · refine ⟨0, by omega, ?_, ?_⟩
    · rw [← e]
      simp
    · rw [e, h]; rfl
  · refine ⟨k + 1, by omega, ?_, rfl⟩
    rw [Int.emod_eq_of_lt (by omega) (by omega)]
    omega
theorem wkL_at {bs : List Blk} {a b : Nat} {s : Int} {N m : Nat} (hm : m < N) : (wkL bs a b s N)[m]?.getD 0 = wk bs a b s m := by simp [wkL, hm]
set_option maxRecDepth 100000 in
set_option maxHeartbeats 8000000 in
theorem CycleTrade_any (v : Int) (s : Value) (bs : List Blk) (a b p : Int) (w : World) (h : SB w s bs) :
    Calls Try.prog 19 #[.agg #[.int .i64 v, s], .int .i64 a, .int .i64 b, .int .i64 p] w (RTrd (ctF v bs a b p) w) := by
  have hs := h.slice
  have HC := Lib.hid fun W (hb : Below w.heap.size w W) => cycleTradeCode_any v s bs a b p W (h.below hb (Nat.le_refl _))
  have HSB := Lib.hid h
  clear h
  obtain ⟨a0, c0, rfl⟩ := hs
  have HBX := Lib.hid (BoxCT.new w v (.slice a0 bs.length c0))
  have HBW := Lib.hid (wCT_below w v (.slice a0 bs.length c0))
  by_cases hk0 : ctCode v bs a b p = 0
  case neg =>
    have HV := Lib.hid (show ctF v bs a b p = (0, ([], []), ctCode v bs a b p) by unfold ctF; rw [if_neg hk0])
    obtain ⟨κ, hκ⟩ : ∃ κ, κ = ctCode v bs a b p := ⟨_, rfl⟩
    rw [← hκ] at HC HV hk0
    have q1 : (κ != 0) = true := by simpa using hk0
    clear hκ hk0 HSB
    go_enter Try.func19, Try.ntmps19
    go_wp2_with fail
    refine (HC.out (wCT w v (.slice a0 bs.length c0)) HBW.out).mono ?_
    rintro e w1 ⟨rfl, hb1⟩
    obtain ⟨_, _, _, z0, z1, z2, f0, f1, f2⟩ := HBX.out.later hb1 HBX.out.lt
    have hB1 := HBW.out.trans (hb1.mono HBW.out.size)
    clear hb1
    go_wp2
    exact bodyPost_ret (v := .tuple #[.agg #[.int .i64 0, .slice none 0 0, .slice none 0 0], .int .i64 κ]) (by simp [results, Try.results19, go_sem, *]) rfl (by rw [HV.out]; exact RTrd.no' hB1 (by omega) κ _ _ _)
  obtain ⟨hi, hf, ha, hb, hab, hp, hpa, hpb, hpt⟩ := ct_good hk0
  obtain ⟨n, rfl⟩ : ∃ n : Nat, v = (n : Int) := ⟨v.toNat, by have := sys_size hi; omega⟩
  obtain ⟨i, rfl⟩ : ∃ n : Nat, a = (n : Int) := ⟨a.toNat, by omega⟩
  obtain ⟨j, rfl⟩ : ∃ n : Nat, b = (n : Int) := ⟨b.toNat, by omega⟩
  obtain ⟨q, rfl⟩ : ∃ n : Nat, p = (n : Int) := ⟨p.toNat, by omega⟩
  have hbey : Beyond n bs (i : Int) (j : Int) (q : Int) := ⟨hp, hpa, hpb, hpt⟩
  have hper := perN_ok hi hf (a := i) (b := j) (by omega) (by omega) (by omega) hbey
  have hv1 : ctF (n : Int) bs (i : Int) (j : Int) (q : Int) = ((n : Int), (sortB (outC bs i j (q : Int) (perN bs i j (q : Int))), sortB (inC bs i j (q : Int) (perN bs i j (q : Int)))), 0) := by unfold ctF; rw [if_pos hk0]; simp
  obtain ⟨N, hN⟩ : ∃ N, N = perN bs i j (q : Int) := ⟨_, rfl⟩
  rw [← hN] at hper hv1
  have HV := Lib.hid hv1
  obtain ⟨hN0, hN2, hN15, hfr, hNs⟩ := hper
  have HTH := Lib.hid fun W (hb : Below w.heap.size w W) => thirdsOf_any n _ bs W (HSB.out.below hb (Nat.le_refl _)) hi
  have HCY := Lib.hid fun G lo gs caps W (hR : SSR W lo G gs caps n (rowT n (tabN bs))) => cycleFrom_any G lo gs caps n n bs i j q W hR hi hf (by omega) (by omega) (by omega) hbey N hN0 hN2 hN15 hfr hNs
  have HNX := Lib.hid fun (k : Nat) (hk : k < N) => wk_next (a := i) (b := j) hNs hk
  rw [hk0] at HC
  clear hi hf ha hb hab hp hpa hpb hpt hbey hfr hNs hN hv1 hk0
  go_enter Try.func19, Try.ntmps19
  go_wp2_with fail
  refine (HC.out (wCT w (n : Int) (.slice a0 bs.length c0)) HBW.out).mono ?_
  rintro e w1 ⟨rfl, hb1⟩
  have hbx1 := HBX.out.later hb1 HBX.out.lt
  have x0 := hbx1.x0
  have x1 := hbx1.x1
  have HBX1 := Lib.hid hbx1
  have HB1 := Lib.hid (HBW.out.trans (hb1.mono HBW.out.size))
  clear hb1 hbx1 HC
  go_wp2_with fail
  refine (HTH.out _ HB1.out).mono ?_
  rintro e w2 ⟨G, gs, caps, rfl, hG, hb2, hR⟩
  have HBX2 := Lib.hid (HBX1.out.later hb2 HBX1.out.lt)
  have HB2 := Lib.hid (HB1.out.trans (hb2.mono HB1.out.size))
  have HCY2 := Lib.hid (HCY.out G _ gs caps w2 hR)
  clear hb2 hR hG HTH HCY x0 x1
  go_wp2_with fail
  refine HCY2.out.mono ?_
  rintro e w3 ⟨u, rfl, ho3, hb3⟩
  have HBX3 := Lib.hid (HBX2.out.later hb3 HBX2.out.lt)
  have HB3 := Lib.hid (HB2.out.trans (hb3.mono HB2.out.size))
  have hlW : (wkL bs i j (q : Int) N).length = N := wkL_len _ _ _ _ _
  have HO3 := Lib.hid ho3
  have hform : ∃ g cap, u = .slice (some ⟨g, 0, none⟩) N cap ∧ g < w3.heap.size ∧ ∀ m, m < N → w3.cell? ⟨g, m, none⟩ = some (.int .i64 (wk bs i j (q : Int) m)) := by
    rcases (ho3.ib (by omega)).2 with ⟨_, _, _, hnil⟩ | ⟨g, off, cap, hu, hg, hI⟩
    · rw [hnil] at hlW; simp at hlW; omega
    · rcases ho3.2 with ⟨e1, e2⟩ | ⟨g', cap', cur, e1, _⟩
      · omega
      · rw [e1] at hu
        simp at hu
        obtain ⟨⟨rfl, rfl⟩, _⟩ := hu
        refine ⟨g', cap', by rw [e1, hlW], hg, fun m hm => ?_⟩
        have := hI m (by omega)
        rw [wkL_at hm, Nat.zero_add] at this
        exact this
  obtain ⟨g, cap, rfl, hg, hcells⟩ := hform
  have HCE := Lib.hid hcells
  clear hb3 ho3 HCY2 hcells hlW HO3
  go_wp2_with fail
  go_loopw [1, 2, 11, 12, 34] (fun va vb o1 o2 t wr => ∃ k : Nat, k ≤ N ∧ t = .int .i64 k ∧ va = .int .i64 (if k % 2 = 0 then (i : Int) else (j : Int)) ∧ vb = .int .i64 (if k % 2 = 0 then (j : Int) else (i : Int)) ∧ Below w3.heap.size w3 wr ∧ TwoR wr w3.heap.size o1 (outC bs i j (q : Int) k) o2 (inC bs i j (q : Int) k) ∧ (∃ a n c, o1 = .slice a n c) ∧ ∃ a n c, o2 = .slice a n c) (fun _ _ _ _ t _ => N - (intOf t).toNat)
  case atStart => exact ⟨0, Nat.zero_le _, rfl, rfl, rfl, Below.refl _ _, TwoR.nil _ _, ⟨_, _, _, rfl⟩, _, _, _, rfl⟩
  case round =>
    obtain ⟨k, hk, rfl, rfl, rfl, hB, hT, ⟨a1, n1, c1, rfl⟩, a2, n2, c2, rfl⟩ := hrel
    have hz := hB.size
    have HT := Lib.hid hT
    clear hT
    by_cases hkl : k < N
    · obtain ⟨m, hm, hmod, hwm⟩ := HNX.out k hkl
      have q1 := (hB.cell (p := ⟨g, k, none⟩) hg).trans (HCE.out k hkl)
      have q2 := (hB.cell (p := ⟨g, m, none⟩) hg).trans (HCE.out m hm)
      rw [hwm] at q2
      have hso := outC_succ bs i j (q : Int) k
      have hsi := inC_succ bs i j (q : Int) k
      have hlo := outC_len bs i j (q : Int) k
      have hli := inC_len bs i j (q : Int) k
      have hnx1 : (if (k + 1) % 2 = 0 then (i : Int) else (j : Int)) = (if k % 2 = 0 then (j : Int) else (i : Int)) := by
        rcases Nat.mod_two_eq_zero_or_one k with e | e
        · rw [if_neg (show ¬ (k + 1) % 2 = 0 by omega), if_pos e]
        · rw [if_pos (show (k + 1) % 2 = 0 by omega), if_neg (show ¬ k % 2 = 0 by omega)]
      have hnx2 : (if (k + 1) % 2 = 0 then (j : Int) else (i : Int)) = (if k % 2 = 0 then (i : Int) else (j : Int)) := by
        rcases Nat.mod_two_eq_zero_or_one k with e | e
        · rw [if_neg (show ¬ (k + 1) % 2 = 0 by omega), if_pos e]
        · rw [if_pos (show (k + 1) % 2 = 0 by omega), if_neg (show ¬ k % 2 = 0 by omega)]
      have HNA := Lib.hid hnx1
      have HNB := Lib.hid hnx2
      obtain ⟨ca, hca⟩ : ∃ z, z = (if k % 2 = 0 then (i : Int) else (j : Int)) := ⟨_, rfl⟩
      obtain ⟨cb, hcb⟩ : ∃ z, z = (if k % 2 = 0 then (j : Int) else (i : Int)) := ⟨_, rfl⟩
      rw [← hca] at hso HNB ⊢
      rw [← hcb] at hsi HNA ⊢
      obtain ⟨y, hy⟩ : ∃ z, z = wk bs i j (q : Int) k := ⟨_, rfl⟩
      obtain ⟨z, hz1⟩ : ∃ z, z = wk bs i j (q : Int) (k + 1) := ⟨_, rfl⟩
      rw [← hy] at q1 hso hsi
      rw [← hz1] at q2 hso hsi
      have HSO := Lib.hid hso
      have HSI := Lib.hid hsi
      obtain ⟨X, hX⟩ : ∃ X, X = blk3 ca y z := ⟨_, rfl⟩
      obtain ⟨Y, hY⟩ : ∃ X, X = blk3 cb y z := ⟨_, rfl⟩
      have HBF := Lib.hid fun (B : Nat) c W h0 h1 h2 => (show Calls Try.prog 53 #[.slice (some ⟨B, 0, none⟩) 3 c] W (RV (bv X) W) from by rw [hX]; exact blockFrom_any B 0 c ca y z W h0 h1 h2)
      have HBG := Lib.hid fun (B : Nat) c W h0 h1 h2 => (show Calls Try.prog 53 #[.slice (some ⟨B, 0, none⟩) 3 c] W (RV (bv Y) W) from by rw [hY]; exact blockFrom_any B 0 c cb y z W h0 h1 h2)
      rw [← hX] at HSO
      rw [← hY] at HSI
      have g0 : (0 : Int) ≤ (k : Int) := by omega
      have g1 : (k : Int) < (N : Int) := by omega
      have g2 : (0 : Int) ≤ (m : Int) := by omega
      have g3 : (m : Int) < (N : Int) := by omega
      have g4 : (0 : Int) < (N : Int) := by omega
      have hl1 : (outC bs i j (q : Int) k).length ≤ 1100000 := by omega
      have hl2 : (inC bs i j (q : Int) k).length ≤ 1100000 := by omega
      clear hwm hso hsi hlo hli hnx1 hnx2 hca hcb hy hz1 hX hY
      obtain ⟨Xa, Xb, Xc⟩ := X
      obtain ⟨Ya, Yb, Yc⟩ := Y
      unfold bv at HBF HBG
      dsimp only at HBF HBG
      go_wp2_with fail
      refine (HBF.out _ _ _ (by simp [go_sem]) (by simp [go_sem]) (by simp [go_sem])).mono ?_
      rintro e w4 ⟨rfl, hb4⟩
      have hb5 := below_new hb4
      have hz5 := hb5.size
      have HT5 := Lib.hid ((HT.out.below hb5).below ((Below.refl _ _).alloc (Nat.le_refl _) (.cells #[.int .i64 Xa, .int .i64 Xb, .int .i64 Xc] 68)))
      have HB5 := Lib.hid (hB.trans (hb5.mono hz))
      clear hb4 hb5 q1 q2
      go_wp2_with (at_builtin; refine wpList_append_blk_at rfl _ _ rfl w3.heap.size _ (outC bs i j (q : Int) k) rfl HT5.out.one _ _ ⟨Xa, Xb, Xc⟩ rfl (by simp [go_sem]) (by simp [go_sem]) (by simp [go_sem]) hl1 (by simp; omega) ?_; intro g6 cap6 w6 hO6 hg6 hat6)
      have hrow := HT5.out.one.row
      have hT6 := HT5.out.grow hO6 hg6 (own_at hat6)
      have HB6 := Lib.hid (HB5.out.grown (gb_trans (World.grownBy_alloc _ _ none) hg6) (by omega) (fun r e => hrow r e))
      have hz6 := hg6.size
      simp at hz6
      have HT6 := Lib.hid hT6
      clear hO6 hg6 hat6 hrow hT6
      refine (HBG.out _ _ _ (by simp [go_sem]) (by simp [go_sem]) (by simp [go_sem])).mono ?_
      rintro e w7 ⟨rfl, hb7⟩
      have hb8 := below_new hb7
      have hz8 := hb8.size
      have HT8 := Lib.hid ((HT6.out.below hb8).below ((Below.refl _ _).alloc (Nat.le_refl _) (.cells #[.int .i64 Ya, .int .i64 Yb, .int .i64 Yc] 68)))
      have HB8 := Lib.hid (HB6.out.trans (hb8.mono (by omega)))
      clear hb7 hb8
      go_wp2_with (at_builtin; refine wpList_append_blk_at rfl _ _ rfl w3.heap.size _ (inC bs i j (q : Int) k) rfl HT8.out.two _ _ ⟨Ya, Yb, Yc⟩ rfl (by simp [go_sem]) (by simp [go_sem]) (by simp [go_sem]) hl2 (by simp; omega) ?_; intro g9 cap9 w9 hO9 hg9 hat9)
      have hrow := HT8.out.two.row
      have hT9 := (HT8.out.swap.grow hO9 hg9 (own_at hat9)).swap
      have HB9 := Lib.hid (HB8.out.grown (gb_trans (World.grownBy_alloc _ _ none) hg9) (by omega) (fun r e => hrow r e))
      have HT9 := Lib.hid hT9
      clear hO9 hg9 hat9 hrow hT9
      go_roundw
      case rel => exact ⟨k + 1, by omega, by go_num, by rw [HNA.out], by rw [HNB.out], HB9.out, by rw [HSO.out, HSI.out]; exact HT9.out, ⟨_, _, _, rfl⟩, _, _, _, rfl⟩
      case measure => simp [intOf]; omega
    · have e : k = N := by omega
      subst e
      have HBX4 := HBX3.out.later hB HBX3.out.lt
      have x0 := HBX4.x0
      have HTF := Lib.hid (tradeFrom_any (n : Int) w3.heap.size _ _ _ _ wr HT.out (by rw [outC_len]; omega) (by rw [inC_len]; omega) hz)
      have HBXH := Lib.hid HBX4
      have HB4 := Lib.hid (HB3.out.trans (hB.mono HB3.out.size))
      clear HBX4
      go_wp2_with fail
      refine HTF.out.mono ?_
      rintro e w5 ⟨rfl, hT5, hb5⟩
      obtain ⟨_, _, _, z0, z1, z2, f0, f1, f2⟩ := HBXH.out.later hb5 HBX3.out.lt
      have hB5 : Below w.heap.size w w5 := HB4.out.trans (hb5.mono HB3.out.size)
      have hsz5 : w3.heap.size ≤ w5.heap.size := by have := hb5.size; omega
      have hlt5 := HBX3.out.lt
      have HR5 := Lib.hid (hT5.res hsz5)
      clear hb5 hT5
      go_wp2
      exact bodyPost_ret (v := .tuple #[.agg #[.int .i64 (n : Int), .slice a1 n1 c1, .slice a2 n2 c2], .int .i64 0]) (by simp [results, Try.results19, go_sem, *]) rfl (by rw [HV.out]; exact RTrd.of' hB5 HR5.out (by omega) hlt5 rfl rfl _ _ _)
end Go.Proofs.Ytmgpmcjbnooklaa

namespace Go.Proofs.Ytmgpmcjbnooklaa
open Go.RowKit Go.Maps
/-- The number of a pair. -/
def numP (p : Int × Int) : Int := p.1 * 16 + p.2
def inNum (ps : List (Int × Int)) (i : Nat) : Bool := decide ((i : Int) ∈ ps.map numP)
/-- 256 bools in block g. -/
structure Bools (W : World) (g : Nat) (f : Nat → Bool) : Prop where
  lt : g < W.heap.size
  at_ : ∀ i, i < 256 → W.cell? ⟨g, i, none⟩ = some (.bool (f i))
  free : ∀ o, W.frozen? ⟨g, o, none⟩ = false
theorem Bools.below {W W' : World} {g B : Nat} {f : Nat → Bool} (h : Bools W g f) (hb : Below B W W') (hB : W.heap.size ≤ B) : Bools W' g f :=
  ⟨Nat.lt_of_lt_of_le h.lt hb.size, fun i hi => (hb.cell (p := ⟨g, i, none⟩) (Nat.lt_of_lt_of_le h.lt hB)).trans (h.at_ i hi), fun o => (hb.frozen (p := ⟨g, o, none⟩) (Nat.lt_of_lt_of_le h.lt hB)).trans (h.free o)⟩
theorem Bools.set {W : World} {g : Nat} {f : Nat → Bool} (h : Bools W g f) {n : Nat} (hn : n < 256) : Bools (W.setCell ⟨g, n, none⟩ (.bool true)) g (fun i => f i || decide (i = n)) := by
  refine ⟨by simpa using h.lt, fun i hi => ?_, fun o => (World.frozen?_setCell _ _ _ _).trans (h.free o)⟩
  by_cases e : i = n
  · subst e
    rw [World.cell?_setCell_same _ _ _ (h.at_ i hi)]
    simp
  · rw [World.cell?_setCell_other _ _ _ _ (by simp), h.at_ i hi]
    simp [e]
theorem Bools.eq {W : World} {g : Nat} {f f' : Nat → Bool} (h : Bools W g f) (e : ∀ i, i < 256 → f i = f' i) : Bools W g f' := ⟨h.lt, fun i hi => by rw [← e i hi]; exact h.at_ i hi, h.free⟩
theorem Bools.drew {W : World} {g : Nat} {f : Nat → Bool} (h : Bools W g f) : Bools W.drew g f := ⟨h.lt, h.at_, h.free⟩
theorem infoBool : (Try.prog.info? 4).map (fun i => (i.zero, i.size, i.bytes)) = some (some (.bool false), 1, 1) := by kernel_rfl
theorem mkBools : ∃ cs : Array Value, (∀ i, i < 256 → cs[i]? = some (.bool false)) ∧ ∀ W : World, (Instr.makeSlice 151 (.int .i64 256) (.int .i64 256)).run Try.prog W = .ok (.slice (some ⟨W.heap.size, 0, none⟩) 256 256) (W.alloc (.cells cs 4)) :=
  ⟨madeCells #[.bool false] 256, fun i hi => by simp [madeCells, hi, Nat.mod_one], fun W => run_make_row' (P := Try.prog) 151 4 (.bool false) 1 Try.underlying151 infoBool rfl .i64 .i64 256 (by omega) (by omega) W⟩
theorem num_nat {v : Int} {x : Blk} (hv : v ≤ 15) (h : goodB v x = true) : ∃ n1 n2 n3 : Nat, (n1 : Int) = x.a * 16 + x.b ∧ (n2 : Int) = x.a * 16 + x.c ∧ (n3 : Int) = x.b * 16 + x.c ∧ n1 < 256 ∧ n2 < 256 ∧ n3 < 256 := by
  rw [goodB_iff] at h
  exact ⟨(x.a * 16 + x.b).toNat, (x.a * 16 + x.c).toNat, (x.b * 16 + x.c).toNat, by omega, by omega, by omega, by omega, by omega, by omega⟩
theorem inNum_next {bs : List Blk} {k : Nat} {x : Blk} (hk : k < bs.length) (hx : bs[k]? = some x) {n1 n2 n3 : Nat} (h1 : (n1 : Int) = x.a * 16 + x.b) (h2 : (n2 : Int) = x.a * 16 + x.c) (h3 : (n3 : Int) = x.b * 16 + x.c) (i : Nat) :
    (((inNum (prs (bs.take k)) i || decide (i = n1)) || decide (i = n2)) || decide (i = n3)) = inNum (prs (bs.take (k + 1))) i := by
  have e : bs[k] = x := by
    rw [List.getElem?_eq_getElem hk] at hx
    simpa using hx
  rw [take_next hk, e]
  unfold inNum prs
  rw [List.flatMap_append, List.map_append]
  simp only [List.flatMap_cons, List.flatMap_nil, List.append_nil, pairsL, List.map_cons, List.map_nil, numP, List.mem_append, List.mem_cons, List.not_mem_nil, or_false]
  rw [Bool.eq_iff_iff]
  simp only [Bool.or_eq_true, decide_eq_true_eq]
  constructor
  · rintro (((h | rfl) | rfl) | rfl)
    · exact .inl h
    · exact .inr (.inl h1)
    · exact .inr (.inr (.inl h2))
    · exact .inr (.inr (.inr h3))
  · rintro (h | h | h | h)
    · exact .inl (.inl (.inl h))
    · exact .inl (.inl (.inr (by omega)))
    · exact .inl (.inr (by omega))
    · exact .inr (by omega)
end Go.Proofs.Ytmgpmcjbnooklaa

namespace Go.Proofs.Ytmgpmcjbnooklaa
open Go.RowKit Go.Maps
theorem OwnR.lit (w : World) : OwnR (w.alloc (.cells #[] 68)) w.heap.size (.slice (some ⟨w.heap.size, 0, none⟩) 0 0) [] :=
  ⟨rfl,   .inr ⟨w.heap.size, 0, #[], rfl, Nat.le_refl _, (MapKept.heap_alloc w (.cells #[] 68)).1, Nat.le_refl _, by unfold maxLen; omega, rfl, rfl⟩⟩
end Go.Proofs.Ytmgpmcjbnooklaa

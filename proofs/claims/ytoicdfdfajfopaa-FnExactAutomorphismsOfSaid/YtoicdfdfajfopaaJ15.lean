
/- Renumberings of full systems, plain: what the model's search finds; both find the same, and not too many. Renumberings of a full system are a group, plain: the orbits of points. Renumberings that go around, plain. Third points of a full system, and the images of its blocks, plain. The program's renumberings of full systems, as an iterator. The model's search for renumberings with its bound, plain: the first so many of those that pass the test. The numbers from 0 on: plain. blockNumbers. The leave degrees, plain. The program's LeaveDegrees. -/
import Derived.Test.YtoicdfdfajfopaaJ14
import Derived.Deep.RegionHeld3
namespace Go.Proofs.Ytoicdfdfajfopaa
section
variable (n : Nat) (T1 T2 : Nat → Nat → Nat)
/-- Does an image of the next point fit to those of the points before? -/
def fitM (l : List Nat) (i : Nat) : Bool := (List.range l.length).all fun q => if T1 l.length q < l.length then decide (l[T1 l.length q]?.getD 0 = T2 i (l[q]?.getD 0)) else !decide (T2 i (l[q]?.getD 0) ∈ l)
def goM : Nat → List Nat → List (List Nat)
  | 0, l => [l]
  | d + 1, l => (List.range n).flatMap fun i => if i ∈ l then [] else if fitM T1 T2 l i then goM d (l ++ [i]) else []
/-- The images so far go together. -/
structure PV (l : List Nat) : Prop where
  nd : l.Nodup
  lt : ∀ x ∈ l, x < n
  fit : ∀ p q, p < l.length → q < p → T1 p q < p → l[T1 p q]?.getD 0 = T2 (l[p]?.getD 0) (l[q]?.getD 0)
end
def lisN (n : Nat) (p : Nat → Nat) : List Nat := (List.range n).map p
def castN (x : List Nat) : List Int := x.map fun (i : Nat) => (i : Int)
section
variable {n : Nat} {T1 T2 : Nat → Nat → Nat}
theorem lisN_at (p : Nat → Nat) {a : Nat} (ha : a < n) : (lisN n p)[a]?.getD 0 = p a := by simp [lisN, ha]
theorem enc_cast (p : Nat → Nat) : encR (lisR n p) = castN (lisN n p) := by
  simp only [encR, lisR, castN, lisN, List.map_map]
  rfl
theorem getD_mem {l : List Nat} {a : Nat} (ha : a < l.length) : l[a]?.getD 0 ∈ l := by simp [ha]
theorem getD_inj {l : List Nat} (hn : l.Nodup) {a b : Nat} (ha : a < l.length) (hb : b < l.length) (h : l[a]?.getD 0 = l[b]?.getD 0) : a = b := by
  simp [ha, hb] at h
  have hp := List.pairwise_iff_getElem.1 hn
  rcases Nat.lt_trichotomy a b with e | e | e
  · exact absurd h (hp a b ha hb e)
  · exact e
  · exact absurd h.symm (hp b a hb ha e)
theorem getD_snoc {l : List Nat} {i a : Nat} (ha : a < l.length) : (l ++ [i])[a]?.getD 0 = l[a]?.getD 0 := by rw [List.getElem?_append_left ha]
theorem getD_last (l : List Nat) (i : Nat) : (l ++ [i])[l.length]?.getD 0 = i := by simp
variable (h1 : Thd n T1) (h2 : Thd n T2)
include h1 h2
theorem PV.iso {l : List Nat} (h : PV n T1 T2 l) (hl : l.length = n) : IsoR n T1 T2 fun a => l[a]?.getD 0 := by
  have lt : ∀ a, a < n → l[a]?.getD 0 < n := fun a ha => h.lt _ (getD_mem (by omega))
  have inj : ∀ a b, a < n → b < n → l[a]?.getD 0 = l[b]?.getD 0 → a = b := fun a b ha hb e => getD_inj h.nd (by omega) (by omega) e
  have key : ∀ a b, a < n → b < a → l[T1 a b]?.getD 0 = T2 (l[a]?.getD 0) (l[b]?.getD 0) := fun a b ha hb => by
    have hbn : b < n := by omega
    have hab : a ≠ b := by omega
    have hr := h1.lt a b ha hbn hab
    have hra := h1.nl a b ha hbn hab
    have hrb := h1.nr a b ha hbn hab
    by_cases hc : T1 a b < a
    · exact h.fit a b (by omega) hb hc
    · have e1 : T1 (T1 a b) b = a := by
        rw [h1.sym _ _ hr hbn hrb, h1.sym a b ha hbn hab]
        exact h1.back b a hbn ha (Ne.symm hab)
      have e2 := h.fit (T1 a b) b (by omega) (by omega) (by rw [e1]; omega)
      rw [e1] at e2
      have hne : l[T1 a b]?.getD 0 ≠ l[b]?.getD 0 := fun e => hrb (inj _ _ hr hbn e)
      have hla := lt b hbn
      have hlr := lt _ hr
      have hne2 : l[a]?.getD 0 ≠ l[b]?.getD 0 := fun e => hab (inj _ _ ha hbn e)
      rw [h2.sym _ _ (lt a ha) hla hne2]
      conv => rhs; rw [e2, h2.sym _ _ hlr hla hne]
      exact (h2.back _ _ hla hlr (Ne.symm hne)).symm
  refine ⟨lt, inj, fun a b ha hb hab => ?_⟩
  rcases Nat.lt_or_gt_of_ne hab with h | h
  · rw [h1.sym a b ha hb hab, h2.sym _ _ (lt a ha) (lt b hb) (fun e => hab (inj a b ha hb e))]
    exact key b a hb h
  · exact key a b ha h
omit h1 h2 in
theorem PV.snoc {l : List Nat} (h : PV n T1 T2 l) {i : Nat} (hi : i < n) (hn : i ∉ l) (hf : fitM T1 T2 l i = true) : PV n T1 T2 (l ++ [i]) := by
  refine ⟨List.nodup_append.2 ⟨h.nd, by simp, fun x hx y hy e => hn (by rw [List.mem_singleton.1 hy] at e; exact e ▸ hx)⟩, fun x hx => ?_, fun p q hp hq hr => ?_⟩
  · rcases List.mem_append.1 hx with hx | hx
    · exact h.lt x hx
    · rw [List.mem_singleton.1 hx]; exact hi
  · rw [List.length_append, List.length_singleton] at hp
    by_cases hpl : p < l.length
    · rw [getD_snoc (by omega), getD_snoc hpl, getD_snoc (by omega)]
      exact h.fit p q hpl hq hr
    · have e : p = l.length := by omega
      subst e
      rw [getD_snoc (by omega), getD_last, getD_snoc (by omega)]
      unfold fitM at hf
      rw [List.all_eq_true] at hf
      have := hf q (List.mem_range.2 hq)
      rw [if_pos hr] at this
      simpa using this
omit h1 h2 in
theorem fit_iso {l : List Nat} {f : Nat → Nat} (h1 : Thd n T1) (hf : IsoR n T1 T2 f) (hl : l.length < n) (he : ∀ a, a < l.length → l[a]?.getD 0 = f a) : f l.length ∉ l ∧ fitM T1 T2 l (f l.length) = true := by
  have hmem : ∀ x ∈ l, ∃ a, a < l.length ∧ f a = x := fun x hx => by
    obtain ⟨a, ha, e⟩ := List.mem_iff_getElem.1 hx
    exact ⟨a, ha, by rw [← he a ha]; simp [ha, e]⟩
  refine ⟨fun h => ?_, ?_⟩
  · obtain ⟨a, ha, e⟩ := hmem _ h
    have := hf.inj a l.length (by omega) hl e
    omega
  · unfold fitM
    rw [List.all_eq_true]
    intro q hq
    rw [List.mem_range] at hq
    have ht := hf.third l.length q hl (by omega) (by omega)
    have hr := h1.lt l.length q hl (by omega) (by omega)
    rw [he q hq, ← ht]
    split
    · rename_i hrl
      simp [he _ hrl]
    · rename_i hrl
      have : f (T1 l.length q) ∉ l := fun h => by
        obtain ⟨a, ha, e⟩ := hmem _ h
        have := hf.inj a _ (by omega) hr e
        omega
      simp [this]
theorem goM_mem : ∀ (d : Nat) (l : List Nat), d + l.length = n → PV n T1 T2 l → ∀ x, x ∈ goM n T1 T2 d l ↔ ∃ f, IsoR n T1 T2 f ∧ (∀ a, a < l.length → l[a]?.getD 0 = f a) ∧ x = lisN n f
  | 0, l, hl, hP, x => by
    have hl : l.length = n := by omega
    unfold goM
    rw [List.mem_singleton]
    have hall : ∀ f : Nat → Nat, (∀ a, a < l.length → l[a]?.getD 0 = f a) → l = lisN n f := fun f hf => by
      apply List.ext_getElem
      · simp [lisN, hl]
      · intro a ha hb
        have := hf a ha
        simp [ha] at this
        simp [lisN, this]
    constructor
    · rintro rfl
      exact ⟨_, hP.iso h1 h2 hl, fun a ha => rfl, hall _ fun a ha => rfl⟩
    · rintro ⟨f, _, he, rfl⟩
      exact (hall f he).symm
  | d + 1, l, hl, hP, x => by
    unfold goM
    rw [List.mem_flatMap]
    constructor
    · rintro ⟨i, hi, hx⟩
      rw [List.mem_range] at hi
      split at hx
      · cases hx
      · rename_i hn
        split at hx
        · rename_i hf
          obtain ⟨f, f1, f2, f3⟩ := (goM_mem d (l ++ [i]) (by simp; omega) (hP.snoc hi hn hf) x).1 hx
          exact ⟨f, f1, fun a ha => by rw [← f2 a (by simp; omega), getD_snoc ha], f3⟩
        · cases hx
    · rintro ⟨f, f1, f2, rfl⟩
      obtain ⟨g1, g2⟩ := fit_iso h1 f1 (by omega) f2
      refine ⟨f l.length, List.mem_range.2 (f1.lt _ (by omega)), ?_⟩
      rw [if_neg g1, if_pos g2]
      refine (goM_mem d (l ++ [f l.length]) (by simp; omega) (hP.snoc (f1.lt _ (by omega)) g1 g2) _).2 ⟨f, f1, fun a ha => ?_, rfl⟩
      rw [List.length_append, List.length_singleton] at ha
      by_cases e : a < l.length
      · rw [getD_snoc e]; exact f2 a e
      · have e : a = l.length := by omega
        rw [e, getD_last]
omit h1 h2 in
theorem goM_pre : ∀ (d : Nat) (l x : List Nat), x ∈ goM n T1 T2 d l → ∃ s, x = l ++ s
  | 0, l, x, h => ⟨[], by unfold goM at h; simpa using h⟩
  | d + 1, l, x, h => by
    unfold goM at h
    obtain ⟨i, _, h⟩ := List.mem_flatMap.1 h
    split at h
    · cases h
    · split at h
      · obtain ⟨s, rfl⟩ := goM_pre d _ x h
        exact ⟨i :: s, by simp⟩
      · cases h
omit h1 h2 in
theorem lexL_pre : ∀ (p a b : List Int), lexL (p ++ a) (p ++ b) = lexL a b
  | [], _, _ => rfl
  | x :: p, a, b => by simp [lexL, lexL_pre p a b]
omit h1 h2 in
theorem goM_asc : ∀ (d : Nat) (l : List Nat), AscR ((goM n T1 T2 d l).map castN)
  | 0, l => by simp [goM, AscR]
  | d + 1, l => by
    unfold AscR
    rw [List.pairwise_map]
    unfold goM
    rw [List.pairwise_flatMap]
    refine ⟨fun i _ => ?_, ?_⟩
    · split
      · exact List.Pairwise.nil
      · split
        · exact List.pairwise_map.1 (goM_asc d _)
        · exact List.Pairwise.nil
    · refine List.Pairwise.imp (fun {i j} hij x hx y hy => ?_) List.pairwise_lt_range
      split at hx
      · cases hx
      · split at hx
        · split at hy
          · cases hy
          · split at hy
            · obtain ⟨s, rfl⟩ := goM_pre d _ x hx
              obtain ⟨t, rfl⟩ := goM_pre d _ y hy
              simp only [castN, List.append_assoc, List.map_append, lexL_pre, List.map_cons, List.cons_append, List.nil_append]
              unfold lexL
              rw [if_neg (by omega)]
              simp; omega
            · cases hy
        · cases hx
/-- Nothing is known. -/
def nonR (n : Nat) : List (Option Nat) := List.replicate n none
omit h1 h2 in
theorem gm_non (a : Nat) : gm (nonR n) a = none := by
  unfold gm nonR
  rw [List.getElem?_replicate]
  split <;> rfl
omit h1 h2 in
theorem cl_non : Cl n T1 T2 (nonR n) [] :=
  ⟨by simp [nonR], fun a b h => (by rw [gm_non] at h; cases h), fun a c b h _ => (by rw [gm_non] at h; cases h), fun a c b d h _ _ => (by rw [gm_non] at h; cases h)⟩
omit h1 h2 in
theorem unk_non : unk (nonR n) = n := by simp [unk, nonR, List.countP_replicate]
/-- All renumberings, as the model lists them. -/
def isoL (n : Nat) (T1 T2 : Nat → Nat → Nat) : List (List Int) := (goM n T1 T2 n []).map castN
/-- The program's search and the model's find the same. -/
theorem rens_goM : (rens n T1 T2 n (nonR n)).map encR = isoL n T1 T2 := by
  refine (rens_asc h1 h2 n _ cl_non (by rw [unk_non]; exact Nat.le_refl _)).ext (goM_asc n []) fun r => ?_
  unfold isoL
  rw [List.mem_map, List.mem_map]
  constructor
  · rintro ⟨x, hx, rfl⟩
    obtain ⟨f, f1, _, rfl⟩ := (rens_mem h1 h2 n _ cl_non (by rw [unk_non]; exact Nat.le_refl _) x).1 hx
    exact ⟨lisN n f, (goM_mem h1 h2 n [] (by simp) ⟨by simp, by simp, by simp⟩ _).2 ⟨f, f1, by simp, rfl⟩, (enc_cast f).symm⟩
  · rintro ⟨x, hx, rfl⟩
    obtain ⟨f, f1, _, rfl⟩ := (goM_mem h1 h2 n [] (by simp) ⟨by simp, by simp, by simp⟩ x).1 hx
    exact ⟨lisR n f, (rens_mem h1 h2 n _ cl_non (by rw [unk_non]; exact Nat.le_refl _) _).2 ⟨f, f1, ⟨fun a b h => (by rw [gm_non] at h; cases h), rfl⟩⟩, enc_cast f⟩
/-- The points whose images are known. -/
def kno (n : Nat) (m : List (Option Nat)) : List Nat := (List.range n).filter fun a => (gm m a).isSome
omit h1 h2 in
theorem kno_mem {m : List (Option Nat)} (hC : Cl n T1 T2 m []) {a : Nat} : a ∈ kno n m ↔ ∃ b, gm m a = some b := by
  unfold kno
  rw [List.mem_filter, List.mem_range, Option.isSome_iff_exists]
  exact ⟨fun h => h.2, fun ⟨b, h⟩ => ⟨(hC.rng a b h).1, b, h⟩⟩
omit h1 h2 in
theorem kno_nodup (m : List (Option Nat)) : (kno n m).Nodup := List.nodup_range.sublist List.filter_sublist
omit h1 h2 in
theorem kno_le (m : List (Option Nat)) : (kno n m).length ≤ n := by
  unfold kno
  refine Nat.le_trans (List.length_filter_le _ _) ?_
  simp
omit h1 h2 in
theorem nodup_len : ∀ (l m : List Nat), l.Nodup → (∀ x ∈ l, x ∈ m) → l.length ≤ m.length
  | [], _, _, _ => by simp
  | x :: l, m, hn, hs => by
    rw [List.nodup_cons] at hn
    have hx : x ∈ m := hs x (by simp)
    have h := nodup_len l (m.erase x) hn.2 (fun y hy => by
      have hne : y ≠ x := fun e => hn.1 (e ▸ hy)
      exact (List.mem_erase_of_ne hne).2 (hs y (by simp [hy])))
    rw [List.length_erase_of_mem hx] at h
    have : 0 < m.length := List.length_pos_of_mem hx
    simp only [List.length_cons]
    omega
omit h2 in
theorem kno_double {m m' : List (Option Nat)} (hC : Cl n T1 T2 m []) (hC' : Cl n T1 T2 m' []) (hm : ∀ a b, gm m a = some b → gm m' a = some b) {p q : Nat} (hp : p < n) (hn : gm m p = none) (hq : gm m' p = some q) : 2 * (kno n m).length + 1 ≤ (kno n m').length := by
  have hS : ∀ a, a ∈ kno n m → a < n ∧ a ≠ p ∧ T1 p a ∉ kno n m ∧ T1 p a ≠ p := fun a ha => by
    obtain ⟨b, hb⟩ := (kno_mem hC).1 ha
    have han := (hC.rng a b hb).1
    have hap : a ≠ p := fun e => by rw [e, hn] at hb; cases hb
    refine ⟨han, hap, fun h => ?_, h1.nl p a hp han (Ne.symm hap)⟩
    obtain ⟨c, hc⟩ := (kno_mem hC).1 h
    have htn := h1.lt p a hp han (Ne.symm hap)
    have hne : a ≠ T1 p a := (h1.nr p a hp han (Ne.symm hap)).symm
    rcases hC.cons a (T1 p a) b c hb hc hne with e | e
    · have : T1 a (T1 p a) = p := by
        rw [h1.sym p a hp han (Ne.symm hap)]
        exact h1.back a p han hp hap
      rw [this, hn] at e
      cases e
    · cases e
  have hl := nodup_len (kno n m ++ p :: (kno n m).map (T1 p)) (kno n m') ?_ ?_
  · simp at hl
    omega
  · rw [List.nodup_append]
    refine ⟨kno_nodup m, ?_, ?_⟩
    · rw [List.nodup_cons]
      refine ⟨fun h => ?_, ?_⟩
      · obtain ⟨a, ha, e⟩ := List.mem_map.1 h
        exact (hS a ha).2.2.2 e
      · refine List.Pairwise.map _ (fun a b hab => hab) (List.Pairwise.imp_of_mem (fun {a b} ha hb hab e => ?_) (kno_nodup m))
        obtain ⟨a1, a2, _, _⟩ := hS a ha
        obtain ⟨b1, b2, _, _⟩ := hS b hb
        have ea := h1.back p a hp a1 (Ne.symm a2)
        have eb := h1.back p b hp b1 (Ne.symm b2)
        rw [e, eb] at ea
        exact hab ea.symm
    · intro a ha b hb e
      rcases List.mem_cons.1 hb with hb | hb
      · exact (hS a ha).2.1 (e.trans hb)
      · obtain ⟨c, hc, rfl⟩ := List.mem_map.1 hb
        exact (hS c hc).2.2.1 (e ▸ ha)
  · intro a ha
    rcases List.mem_append.1 ha with ha | ha
    · obtain ⟨b, hb⟩ := (kno_mem hC).1 ha
      exact (kno_mem hC').2 ⟨b, hm a b hb⟩
    · rcases List.mem_cons.1 ha with rfl | ha
      · exact (kno_mem hC').2 ⟨q, hq⟩
      · obtain ⟨c, hc, rfl⟩ := List.mem_map.1 ha
        obtain ⟨d, hd⟩ := (kno_mem hC).1 hc
        obtain ⟨c1, c2, _, _⟩ := hS c hc
        rcases hC'.cons p c q d hq (hm c d hd) (Ne.symm c2) with e | e
        · exact (kno_mem hC').2 ⟨_, e⟩
        · cases e
omit h1 h2 in
theorem flat_bound {α β : Type} (f : α → List β) (c : Nat) : ∀ l : List α, (∀ x ∈ l, (f x).length ≤ c) → (l.flatMap f).length ≤ l.length * c
  | [], _ => by simp
  | x :: r, h => by
    rw [List.flatMap_cons, List.length_append, List.length_cons, Nat.succ_mul]
    have := h x (by simp)
    have := flat_bound f c r (fun y hy => h y (by simp [hy]))
    omega
theorem rens_len (hn1 : 1 ≤ n) : ∀ (j d : Nat) (m : List (Option Nat)), Cl n T1 T2 m [] → n < 2 ^ j * ((kno n m).length + 1) → (rens n T1 T2 d m).length ≤ n ^ j
  | j, 0, m, _, _ => by
    unfold rens
    simp only [List.length_singleton]
    exact Nat.one_le_pow j n hn1
  | 0, d + 1, m, hC, hk => by
    unfold rens
    cases hf : m.findIdx? Option.isNone with
    | none => simp
    | some p =>
      obtain ⟨hp, hn, _⟩ := find_some hf
      exfalso
      have hl := nodup_len (p :: kno n m) (List.range n) (List.nodup_cons.2 ⟨fun h => (by
        obtain ⟨b, hb⟩ := (kno_mem hC).1 h
        rw [hn] at hb; cases hb), kno_nodup m⟩) (fun a ha => by
        rw [List.mem_range]
        rcases List.mem_cons.1 ha with rfl | ha
        · rw [← hC.len]; exact hp
        · obtain ⟨b, hb⟩ := (kno_mem hC).1 ha
          exact (hC.rng a b hb).1)
      simp at hl hk
      omega
  | j + 1, d + 1, m, hC, hk => by
    unfold rens
    cases hf : m.findIdx? Option.isNone with
    | none => simp only [List.length_singleton]; exact Nat.one_le_pow _ n hn1
    | some p =>
      obtain ⟨hp, hn, _⟩ := find_some hf
      have hpn : p < n := by rw [← hC.len]; exact hp
      dsimp only
      refine Nat.le_trans (flat_bound _ (n ^ j) _ fun q hq => ?_) ?_
      · rw [List.mem_range] at hq
        cases hr : propR n T1 T2 m p q with
        | none => simp
        | some m' =>
          obtain ⟨k1, k2, k3, _⟩ := propR_some h1 h2 hC hpn hq hr
          have hd := kno_double h1 hC k1 k2 hpn hn k3
          refine rens_len hn1 j d m' k1 (Nat.lt_of_lt_of_le hk ?_)
          rw [Nat.pow_succ, Nat.mul_assoc]
          exact Nat.mul_le_mul_left _ (by omega)
      · rw [List.length_range, Nat.pow_succ, Nat.mul_comm]
        exact Nat.le_refl _
/-- There are fewer than a million. -/
theorem isoL_len (hn1 : 1 ≤ n) (hn : n ≤ 15) : (isoL n T1 T2).length ≤ 50625 := by
  rw [← rens_goM h1 h2, List.length_map]
  have h := rens_len h1 h2 hn1 4 n (nonR n) cl_non (by
    have : (2 : Nat) ^ 4 = 16 := by decide
    rw [this]
    omega)
  have h4 : n ^ 4 ≤ 15 ^ 4 := Nat.pow_le_pow_left hn 4
  have : (15 : Nat) ^ 4 = 50625 := by decide
  omega
end
end Go.Proofs.Ytoicdfdfajfopaa

namespace Go.Proofs.Ytoicdfdfajfopaa
section
variable {n : Nat} {T T2 T3 : Nat → Nat → Nat}
theorem iso_id : IsoR n T T fun a => a := ⟨fun _ h => h, fun _ _ _ _ h => h, fun _ _ _ _ _ => rfl⟩
theorem iso_comp {f g : Nat → Nat} (hf : IsoR n T T2 f) (hg : IsoR n T2 T3 g) : IsoR n T T3 fun a => g (f a) :=
  ⟨fun a h => hg.lt _ (hf.lt a h), fun a b ha hb h => hf.inj a b ha hb (hg.inj _ _ (hf.lt a ha) (hf.lt b hb) h), fun a b ha hb hab => by
    show g (f (T a b)) = _
    rw [hf.third a b ha hb hab, hg.third _ _ (hf.lt a ha) (hf.lt b hb) fun e => hab (hf.inj a b ha hb e)]⟩
theorem inj_onto {f : Nat → Nat} (hl : ∀ a, a < n → f a < n) (hi : ∀ a b, a < n → b < n → f a = f b → a = b) {b : Nat} (hb : b < n) : ∃ a, a < n ∧ f a = b := by
  refine Classical.byContradiction fun h => ?_
  have hl2 := nodup_len (b :: (List.range n).map f) (List.range n) (List.nodup_cons.2 ⟨fun hm => by
    obtain ⟨a, ha, e⟩ := List.mem_map.1 hm
    exact h ⟨a, List.mem_range.1 ha, e⟩, ?_⟩) (fun x hx => by
    rw [List.mem_range]
    rcases List.mem_cons.1 hx with rfl | hx
    · exact hb
    · obtain ⟨a, ha, rfl⟩ := List.mem_map.1 hx
      exact hl a (List.mem_range.1 ha))
  · simp at hl2
    omega
  · refine List.Pairwise.map _ (fun a b hab => hab) (List.Pairwise.imp_of_mem (fun {a b} ha hb hab e => ?_) (List.nodup_range (n := n)))
    exact hab (hi a b (List.mem_range.1 ha) (List.mem_range.1 hb) e)
theorem iso_inv {f : Nat → Nat} (hT : Thd n T) (hf : IsoR n T T2 f) : ∃ g, IsoR n T2 T g ∧ (∀ a, a < n → f (g a) = a) ∧ ∀ a, a < n → g (f a) = a := by
  have hex : ∀ b, ∃ a, b < n → a < n ∧ f a = b := fun b => by
    by_cases hb : b < n
    · obtain ⟨a, h⟩ := inj_onto hf.lt hf.inj hb
      exact ⟨a, fun _ => h⟩
    · exact ⟨0, fun h => absurd h hb⟩
  obtain ⟨g, hg⟩ := Classical.axiomOfChoice hex
  have hgi : ∀ a, a < n → g (f a) = a := fun a ha => hf.inj _ _ (hg _ (hf.lt a ha)).1 ha (hg _ (hf.lt a ha)).2
  refine ⟨g, ⟨fun a ha => (hg a ha).1, fun a b ha hb h => by rw [← (hg a ha).2, ← (hg b hb).2, h], fun a b ha hb hab => ?_⟩, fun a ha => (hg a ha).2, hgi⟩
  obtain ⟨a1, a2⟩ := hg a ha
  obtain ⟨b1, b2⟩ := hg b hb
  have hne : g a ≠ g b := fun e => hab (by rw [← a2, ← b2, e])
  have h := hf.third _ _ a1 b1 hne
  rw [a2, b2] at h
  rw [← h]
  exact hgi _ (hT.lt _ _ a1 b1 hne)
/-- Does a renumbering of all lead p to q? -/
def imgR (n : Nat) (T : Nat → Nat → Nat) (p q : Nat) : Bool := (goM n T T n []).any fun x => decide (x[p]?.getD 0 = q)
theorem imgR_iff (hT : Thd n T) {p q : Nat} (hp : p < n) : imgR n T p q = true ↔ ∃ f, IsoR n T T f ∧ f p = q := by
  unfold imgR
  rw [List.any_eq_true]
  constructor
  · rintro ⟨x, hx, h⟩
    obtain ⟨f, f1, _, rfl⟩ := (goM_mem hT hT n [] (by simp) ⟨by simp, by simp, by simp⟩ x).1 hx
    rw [lisN_at f hp, decide_eq_true_eq] at h
    exact ⟨f, f1, h⟩
  · rintro ⟨f, f1, h⟩
    exact ⟨lisN n f, (goM_mem hT hT n [] (by simp) ⟨by simp, by simp, by simp⟩ _).2 ⟨f, f1, by simp, rfl⟩, by rw [lisN_at f hp, decide_eq_true_eq]; exact h⟩
theorem imgR_eqv (hT : Thd n T) : Eqv n (imgR n T) :=
  ⟨fun a ha => (imgR_iff hT ha).2 ⟨_, iso_id, rfl⟩, fun a b ha hb h => by
    obtain ⟨f, f1, rfl⟩ := (imgR_iff hT ha).1 h
    obtain ⟨g, g1, _, g3⟩ := iso_inv hT f1
    exact (imgR_iff hT hb).2 ⟨g, g1, g3 a ha⟩, fun a b c ha hb _ h1 h2 => by
    obtain ⟨f, f1, rfl⟩ := (imgR_iff hT ha).1 h1
    obtain ⟨g, g1, rfl⟩ := (imgR_iff hT hb).1 h2
    exact (imgR_iff hT ha).2 ⟨_, iso_comp f1 g1, rfl⟩⟩
end
/-- The least of numbers, or n. -/
def minL (n : Nat) (l : List Nat) : Nat := l.foldl min n
theorem minL_snoc (n : Nat) (l : List Nat) (x : Nat) : minL n (l ++ [x]) = min (minL n l) x := by simp [minL]
theorem minL_le : ∀ (l : List Nat) (n : Nat), minL n l ≤ n ∧ (∀ x ∈ l, minL n l ≤ x) ∧ (minL n l = n ∨ minL n l ∈ l)
  | [], n => ⟨Nat.le_refl _, by simp, .inl rfl⟩
  | x :: l, n => by
    obtain ⟨h1, h2, h3⟩ := minL_le l (min n x)
    show minL (min n x) l ≤ n ∧ (∀ y ∈ x :: l, minL (min n x) l ≤ y) ∧ (minL (min n x) l = n ∨ minL (min n x) l ∈ x :: l)
    refine ⟨by omega, fun y hy => ?_, ?_⟩
    · rcases List.mem_cons.1 hy with rfl | hy
      · omega
      · exact h2 y hy
    · rcases h3 with h3 | h3
      · rcases Nat.le_total n x with h | h
        · left; omega
        · right; rw [h3, show min n x = x by omega]; simp
      · exact .inr (by simp [h3])
/-- The program's first numbers. -/
def fstO (n : Nat) (T : Nat → Nat → Nat) (a : Nat) : Nat := minL n ((goM n T T n []).map fun x => x[a]?.getD 0)
theorem fstO_ok {n : Nat} {T : Nat → Nat → Nat} (hT : Thd n T) : ∀ a, a < n → fstO n T a < n ∧ imgR n T a (fstO n T a) = true ∧ ∀ b, b < n → imgR n T a b = true → fstO n T a ≤ b := by
  intro a ha
  obtain ⟨_, h2, h3⟩ := minL_le ((goM n T T n []).map fun x => x[a]?.getD 0) n
  have hle : ∀ b, imgR n T a b = true → fstO n T a ≤ b := fun b hb => by
    unfold imgR at hb
    rw [List.any_eq_true] at hb
    obtain ⟨x, hx, h⟩ := hb
    exact h2 b (List.mem_map.2 ⟨x, hx, by simpa using h⟩)
  have ha' := hle a ((imgR_eqv hT).refl a ha)
  refine ⟨by omega, ?_, fun b _ hb => hle b hb⟩
  rcases h3 with h3 | h3
  · have : fstO n T a = n := h3
    omega
  · obtain ⟨x, hx, e⟩ := List.mem_map.1 h3
    unfold imgR
    rw [List.any_eq_true]
    exact ⟨x, hx, by rw [decide_eq_true_eq]; exact e⟩
/-- The orbits of points: the program's and the model's are the same. -/
theorem orbits_same {n : Nat} {T : Nat → Nat → Nat} (hT : Thd n T) : (orbG (fun a => if a < n then fstO n T a else a) n).1 = (orbM n (imgR n T) n).2 := orb_same (imgR_eqv hT) (fstO_ok hT)
end Go.Proofs.Ytoicdfdfajfopaa

namespace Go.Proofs.Ytoicdfdfajfopaa
/-- The points behind 0. -/
def itr (f : Nat → Nat) : Nat → Nat
  | 0 => 0
  | k + 1 => f (itr f k)
/-- The model's test. -/
def aroM (n : Nat) (f : Nat → Nat) : Bool := ((List.range (n - 1)).all fun k => decide (itr f (k + 1) ≠ 0)) && decide (itr f n = 0)
section
variable {n : Nat} {f : Nat → Nat} (hn : 1 ≤ n) (hl : ∀ a, a < n → f a < n) (hi : ∀ a b, a < n → b < n → f a = f b → a = b)
include hn hl
theorem itr_lt : ∀ k, itr f k < n
  | 0 => hn
  | k + 1 => hl _ (itr_lt k)
include hi
theorem itr_back : ∀ i j, itr f i = itr f (i + j) → itr f j = 0
  | 0, j, h => by rw [Nat.zero_add] at h; exact h.symm
  | i + 1, j, h => by
    refine itr_back i j (hi _ _ (itr_lt hn hl i) (itr_lt hn hl (i + j)) ?_)
    rw [show i + 1 + j = (i + j) + 1 by omega] at h
    exact h
theorem itr_ends : ∃ m, 1 ≤ m ∧ m ≤ n ∧ itr f m = 0 := by
  refine Classical.byContradiction fun hno => ?_
  have h0 : ∀ m, 1 ≤ m → m ≤ n → itr f m ≠ 0 := fun m h1 h2 h3 => hno ⟨m, h1, h2, h3⟩
  have hl2 := nodup_len ((List.range (n + 1)).map (itr f)) (List.range n) ?_ (fun x hx => by
    obtain ⟨k, _, rfl⟩ := List.mem_map.1 hx
    exact List.mem_range.2 (itr_lt hn hl k))
  · simp at hl2
    omega
  · have hne : ∀ a b, a < b → b < n + 1 → itr f a ≠ itr f b := fun a b hab hb e => by
      have : b = a + (b - a) := by omega
      rw [this] at e
      exact h0 (b - a) (by omega) (by omega) (itr_back hn hl hi a (b - a) e)
    refine List.Pairwise.map _ (fun a b hab => hab) (List.Pairwise.imp_of_mem (fun {a b} ha hb hab => ?_) (List.pairwise_lt_range (n := n + 1)))
    exact hne a b hab (List.mem_range.1 hb)
/-- The program's loop ends: at the length of the cycle of 0. -/
theorem itr_first : ∃ m, 1 ≤ m ∧ m ≤ n ∧ itr f m = 0 ∧ ∀ k, 1 ≤ k → k < m → itr f k ≠ 0 := by
  obtain ⟨m, h1, h2, h3⟩ := itr_ends hn hl hi
  have key : ∀ d m, m ≤ d → 1 ≤ m → itr f m = 0 → ∃ m', 1 ≤ m' ∧ m' ≤ m ∧ itr f m' = 0 ∧ ∀ k, 1 ≤ k → k < m' → itr f k ≠ 0 := by
    intro d
    induction d with
    | zero => intro m h1 h2; omega
    | succ d ih =>
      intro m h1 h2 h3
      by_cases hx : ∃ k, 1 ≤ k ∧ k < m ∧ itr f k = 0
      · obtain ⟨k, k1, k2, k3⟩ := hx
        obtain ⟨m', a1, a2, a3, a4⟩ := ih k (by omega) k1 k3
        exact ⟨m', a1, by omega, a3, a4⟩
      · exact ⟨m, h2, Nat.le_refl _, h3, fun k k1 k2 k3 => hx ⟨k, k1, k2, k3⟩⟩
  obtain ⟨m', a1, a2, a3, a4⟩ := key m m (Nat.le_refl _) h1 h3
  exact ⟨m', a1, by omega, a3, a4⟩
omit hn hl hi in
theorem aro_iff {m : Nat} (h1 : 1 ≤ m) (h2 : m ≤ n) (h3 : itr f m = 0) (h4 : ∀ k, 1 ≤ k → k < m → itr f k ≠ 0) : aroM n f = decide (m = n) := by
  unfold aroM
  by_cases e : m = n
  · subst e
    rw [decide_eq_true rfl, Bool.and_eq_true, List.all_eq_true]
    refine ⟨fun k hk => ?_, decide_eq_true h3⟩
    rw [List.mem_range] at hk
    exact decide_eq_true (h4 (k + 1) (by omega) (by omega))
  · rw [decide_eq_false e, Bool.and_eq_false_iff]
    left
    rw [List.all_eq_false]
    exact ⟨m - 1, List.mem_range.2 (by omega), by rw [show m - 1 + 1 = m by omega]; simp [h3]⟩
end
end Go.Proofs.Ytoicdfdfajfopaa

namespace Go.Proofs.Ytoicdfdfajfopaa
/-- The third points as numbers. -/
def T3 (bs : List Blk) (a b : Nat) : Nat := (third1 bs (a : Int) (b : Int)).toNat
section
variable {n : Nat} {bs : List Blk}
theorem T3_cast (h : isSysImpl (n : Int) bs = true) (hf : fullB (n : Int) bs = true) {a b : Nat} (ha : a < n) (hb : b < n) (hab : a ≠ b) : Tri bs (a : Int) (b : Int) (T3 bs a b : Int) ∧ T3 bs a b < n ∧ third1 bs (a : Int) (b : Int) = (T3 bs a b : Int) := by
  have ht := tri_third h hf (a := (a : Int)) (b := (b : Int)) (by omega) (by omega) (by omega)
  have hr := ht.range h
  have e : third1 bs (a : Int) (b : Int) = (T3 bs a b : Int) := by unfold T3; omega
  rw [e] at ht hr
  exact ⟨ht, by omega, e⟩
theorem T3_of (h : isSysImpl (n : Int) bs = true) {a b c : Nat} (ht : Tri bs (a : Int) (b : Int) (c : Int)) : T3 bs a b = c := by
  unfold T3
  rw [third1_of h ht]
  omega
theorem Tri.ne {a b c : Int} (h : Tri bs a b c) : a ≠ b ∧ b ≠ c ∧ a ≠ c := by
  obtain ⟨_, _, _, _, _, h⟩ := h
  exact h
theorem thdS (h : isSysImpl (n : Int) bs = true) (hf : fullB (n : Int) bs = true) : Thd n (T3 bs) := by
  refine ⟨fun a b ha hb hab => (T3_cast h hf ha hb hab).2.1, fun a b ha hb hab => ?_, fun a b ha hb hab => ?_, fun a b ha hb hab => ?_, fun a b ha hb hab => ?_⟩
  all_goals obtain ⟨ht, _, _⟩ := T3_cast h hf ha hb hab
  · have := ht.ne.2.2
    omega
  · have := ht.ne.2.1
    omega
  · exact (T3_of h ht.swap).symm
  · exact T3_of h ht.turn
end
theorem has_blk3 {v : Int} {y : Blk} (hg : goodB v y = true) {p q r : Int} (hp : hasB y p = true) (hq : hasB y q = true) (hr : hasB y r = true) (h1 : p ≠ q) (h2 : q ≠ r) (h3 : p ≠ r) : blk3 p q r = y := by
  obtain ⟨a, b, c⟩ := y
  simp only [goodB, hasB, Bool.and_eq_true, Bool.or_eq_true, decide_eq_true_eq] at *
  simp only [blk3, Blk.mk.injEq]
  omega
end Go.Proofs.Ytoicdfdfajfopaa

namespace Go.Proofs.Ytoicdfdfajfopaa
open Go.RowKit Go.Maps Go.Shelf
/-- A table of third points in new memory. -/
def TbS (W : World) (lo G cap n : Nat) (T : Nat → Nat → Nat) : Prop := ∃ (gs cs : Nat → Nat), lo ≤ G ∧ G < W.heap.size ∧ (∀ a, a < n → lo ≤ gs a ∧ gs a < W.heap.size) ∧ (∀ a, a < n → W.cell? ⟨G, a, none⟩ = some (.slice (some ⟨gs a, 0, none⟩) n (cs a))) ∧ ∀ a c, a < n → c < n → a ≠ c → W.cell? ⟨gs a, c, none⟩ = some (.int .i64 (T a c : Int))
theorem TbS.below {W W' : World} {lo lo' G cap n : Nat} {T : Nat → Nat → Nat} (h : TbS W lo G cap n T) (hb : Below W.heap.size W W') (hl : lo' ≤ lo) : TbS W' lo' G cap n T := by
  obtain ⟨gs, cs, h1, h2, h3, h4, h5⟩ := h
  have hz := hb.size
  exact ⟨gs, cs, by omega, by omega, fun a ha => by have := h3 a ha; omega, fun a ha => (hb.cell (p := ⟨G, a, none⟩) h2).trans (h4 a ha), fun a c ha hc hne => (hb.cell (p := ⟨gs a, c, none⟩) (h3 a ha).2).trans (h5 a c ha hc hne)⟩
theorem TbS.tbE {W : World} {lo G cap n Bx : Nat} {T : Nat → Nat → Nat} (h : TbS W lo G cap n T) (hb : W.cell? ⟨Bx, 0, none⟩ = some (.slice (some ⟨G, 0, none⟩) n cap)) (hl : lo ≤ Bx) : TbE W (fun i => i < lo) Bx n T := by
  obtain ⟨gs, cs, h1, h2, h3, h4, h5⟩ := h
  exact ⟨G, cap, gs, cs, by omega, by omega, fun a ha => by have := (h3 a ha).1; omega, hb, h4, h5⟩
theorem TbE.fewer {W : World} {E E' : Nat → Prop} {Bx n : Nat} {T : Nat → Nat → Nat} (h : TbE W E Bx n T) (he : ∀ i, E' i → E i) : TbE W E' Bx n T := by
  obtain ⟨G, cap, gs, cs, h1, h2, h3, h4⟩ := h
  exact ⟨G, cap, gs, cs, fun e => h1 (he _ e), fun e => h2 (he _ e), fun a ha e => h3 a ha (he _ e), h4⟩
theorem thirdsE_any (n : Nat) (s : Value) (bs : List Blk) (w : World) (h : SB w s bs) (hi : isSysImpl (n : Int) bs = true) (hf : fullB (n : Int) bs = true) :
    Calls Try.prog 103 #[.agg #[.int .i64 (n : Int), s]] w (fun e w' => ∃ G, e = .returned (.slice (some ⟨G, 0, none⟩) n n) ∧ TbS w' w.heap.size G n n (T3 bs) ∧ Below w.heap.size w w') :=
  (thirdsOf_any n s bs w h hi).mono fun e w' ⟨G, gs, caps, he, hG, hb, hS⟩ => ⟨G, he, ⟨gs, caps, hG, hS.lt, fun a ha => ⟨hS.low a ha, (hS.row a ha).lt⟩, fun a ha => by
    have := hS.cell a ha
    rw [rowT_len] at this
    exact this, fun a c ha hc hne => by
    have := (hS.row a ha).at_ c (by rw [rowT_len]; exact hc)
    rw [rowT_at _ _ hc, show tabN bs a c = third1 bs (a : Int) (c : Int) from tab_third hi hf (by omega) (by omega) (by omega), (T3_cast hi hf ha hc hne).2.2] at this
    simpa using this⟩, hb⟩
theorem enc_non (n : Nat) : encM (nonR n) = List.replicate n (-1) := by simp [encM, nonR]
/-- What an iterator of renumberings holds. -/
def RenD (W : World) (lo n Bi Bt Bf : Nat) (v : Value) (T1 T2 : Nat → Nat → Nat) : Prop := Boxed W Bi 25 v ∧ lo ≤ Bi ∧ OwnJ W lo v (encM (nonR n)) ∧ TbE W (fun i => i < lo) Bf n T1 ∧ TbE W (fun i => i < lo) Bt n T2
set_option maxRecDepth 100000 in
set_option maxHeartbeats 4000000 in
theorem renumberings_any (n : Nat) (s1 s2 : Value) (bs1 bs2 : List Blk) (w : World) (h1 : SB w s1 bs1) (h2 : SB w s2 bs2) (i1 : isSysImpl (n : Int) bs1 = true) (f1 : fullB (n : Int) bs1 = true) (i2 : isSysImpl (n : Int) bs2 = true) (f2 : fullB (n : Int) bs2 = true) :
    Calls Try.prog 67 #[.agg #[.int .i64 (n : Int), s1], .agg #[.int .i64 (n : Int), s2]] w (fun e w' => ∃ Bi Bt Bf v, e = .returned (.func (.func 121) #[] #[.pointer (some ⟨Bi, 0, none⟩), .pointer (some ⟨Bt, 0, none⟩), .pointer (some ⟨Bf, 0, none⟩)]) ∧ RenD w' w.heap.size n Bi Bt Bf v (T3 bs1) (T3 bs2) ∧ Below w.heap.size w w') := by
  have h3 := (sys_size i1).1
  have h15 := (sys_size i1).2.1
  have HT1 := Lib.hid fun W (hb : Below w.heap.size w W) => thirdsE_any n s1 bs1 W (h1.below hb (Nat.le_refl _)) i1 f1
  have HT2 := Lib.hid fun W (hb : Below w.heap.size w W) => thirdsE_any n s2 bs2 W (h2.below hb (Nat.le_refl _)) i2 f2
  obtain ⟨a1, c1, rfl⟩ := h1.slice
  obtain ⟨a2, c2, rfl⟩ := h2.slice
  clear h1 h2 i1 f1 i2 f2
  have HRF := Lib.hid fun (x1 x2 x3 : Option Addr) (m1 m2 m3 d1 d2 d3 : Nat) W => renFrom_any x1 x2 x3 m1 m2 m3 d1 d2 d3 W
  obtain ⟨W1, hW1⟩ : ∃ W1, W1 = ((w.alloc (.cells #[.int .i64 n, .slice a1 bs1.length c1] 31)).alloc (.cells #[.int .i64 n, .slice a2 bs2.length c2] 31)).alloc (.cells #[.int .i64 (-1)] 2) := ⟨_, rfl⟩
  have hB1 : Below w.heap.size w W1 := by rw [hW1]; exact (((Below.refl _ _).alloc (Nat.le_refl _) _).alloc (by simp) _).alloc (by simp <;> omega) _
  have q0 : W1.cell? ⟨w.heap.size, 0, none⟩ = some (.int .i64 n) := by rw [hW1]; simp [go_sem]
  have q1 : W1.cell? ⟨w.heap.size, 1, none⟩ = some (.slice a1 bs1.length c1) := by rw [hW1]; simp [go_sem]
  have r0 : W1.cell? ⟨w.heap.size + 1, 0, none⟩ = some (.int .i64 n) := by rw [hW1]; simp [go_sem]
  have r1 : W1.cell? ⟨w.heap.size + 1, 1, none⟩ = some (.slice a2 bs2.length c2) := by rw [hW1]; simp [go_sem]
  have m0 : W1.cell? ⟨w.heap.size + 1 + 1, 0, none⟩ = some (.int .i64 (-1)) := by rw [hW1]; simp [go_sem]
  have hz1 : W1.heap.size = w.heap.size + 1 + 1 + 1 := by rw [hW1]; simp
  have HR := Lib.hid (RepeatI_any n (by omega) (by omega) (w.heap.size + 1 + 1) (-1) W1 m0)
  clear m0
  go_enter Try.func67, Try.ntmps67
  go_wp2_with fail
  rw [← hW1]
  refine HR.out.mono ?_
  rintro e w2 ⟨g, rfl, hO, hb2⟩
  have hB2 := hB1.trans (hb2.mono (by omega))
  have q0 := (hb2.cell (p := ⟨w.heap.size, 0, none⟩) (show w.heap.size < W1.heap.size by omega)).trans q0
  have q1 := (hb2.cell (p := ⟨w.heap.size, 1, none⟩) (show w.heap.size < W1.heap.size by omega)).trans q1
  have r0 := (hb2.cell (p := ⟨w.heap.size + 1, 0, none⟩) (show w.heap.size + 1 < W1.heap.size by omega)).trans r0
  have r1 := (hb2.cell (p := ⟨w.heap.size + 1, 1, none⟩) (show w.heap.size + 1 < W1.heap.size by omega)).trans r1
  have hz2 := hb2.size
  have HO := Lib.hid (hO.baseD (b' := w.heap.size) (by omega))
  have HB2 := Lib.hid hB2
  clear hW1 hB1 HR hO hb2 hB2
  go_upto_region 4 with fail
  go_region_with (first
    | (go_at_call_of 103 (Value.slice a1 bs1.length c1); refine (HT1.out _ (by first | exact HB2.out | exact HB2.out.drew)).mono ?_; rintro e w3 ⟨G1, rfl, ht1, hb3⟩; have HB3 := Lib.hid (show Below w.heap.size w w3 from by first | exact HB2.out.trans (hb3.mono HB2.out.size) | exact HB2.out.drew.trans (hb3.mono HB2.out.size)); have x0 := (show w3.cell? ⟨w.heap.size + 1, 0, none⟩ = some (.int .i64 n) from (hb3.cell (p := ⟨w.heap.size + 1, 0, none⟩) (by first | (show w.heap.size + 1 < w2.heap.size; omega) | (simp; omega))).trans r0); have x1 := (show w3.cell? ⟨w.heap.size + 1, 1, none⟩ = some (.slice a2 bs2.length c2) from (hb3.cell (p := ⟨w.heap.size + 1, 1, none⟩) (by first | (show w.heap.size + 1 < w2.heap.size; omega) | (simp; omega))).trans r1); have HS1 := Lib.hid (show TbS w3 w.heap.size G1 n n (T3 bs1) from ht1.below (Below.refl _ _) HB2.out.size); have HO3 := Lib.hid (show OwnJ w3 w.heap.size (.slice (some ⟨g, 0, none⟩) n n) (List.replicate n (-1)) from by first | exact HO.out.below hb3 (Nat.le_refl _) | exact OwnJ.below (w := w2.drew) HO.out hb3 (Nat.le_refl _)); have hz3 := HB3.out.size; clear ht1 hb3)
    | (go_at_call_of 103 (Value.slice a2 bs2.length c2); refine (HT2.out _ (by first | exact HB3.out | exact HB3.out.drew)).mono ?_; rintro e w4 ⟨G2, rfl, ht2, hb4⟩; have HB4 := Lib.hid (show Below w.heap.size w w4 from by first | exact HB3.out.trans (hb4.mono HB3.out.size) | exact HB3.out.drew.trans (hb4.mono HB3.out.size)); have HS2 := Lib.hid (show TbS w4 w.heap.size G2 n n (T3 bs2) from ht2.below (Below.refl _ _) HB3.out.size); have HP1 := Lib.hid (show TbS w4 w.heap.size G1 n n (T3 bs1) from by first | exact HS1.out.below hb4 (Nat.le_refl _) | exact TbS.below (W := w3.drew) HS1.out hb4 (Nat.le_refl _)); have HO4 := Lib.hid (show OwnJ w4 w.heap.size (.slice (some ⟨g, 0, none⟩) n n) (List.replicate n (-1)) from by first | exact HO3.out.below hb4 (Nat.le_refl _) | exact OwnJ.below (w := w3.drew) HO3.out hb4 (Nat.le_refl _)); clear ht2 hb4)
    | (go_at_call 102; refine (HRF.out _ _ _ _ _ _ _ _ _ _).mono ?_; rintro e w5 ⟨rfl, hw5⟩; have HW5 := Lib.hid hw5; clear hw5))
  all_goals
    have hw5 := HW5.out
    have hz4 := HB4.out.size
    have hb5 : Below w4.heap.size w4 w5 := by rw [hw5]; exact (((Below.refl _ _).alloc (Nat.le_refl _) _).alloc (by simp) _).alloc (by simp <;> omega) _
    have hx1 : Boxed w5 w4.heap.size 46 (.slice (some ⟨G1, 0, none⟩) n n) := by rw [hw5]; exact ((Boxed.new w4 _ _).alloc _).alloc _
    have hx2 : Boxed w5 (w4.heap.size + 1) 46 (.slice (some ⟨G2, 0, none⟩) n n) := by
      have := (Boxed.new (w4.alloc (.cells #[.slice (some ⟨G1, 0, none⟩) n n] 46)) 46 (.slice (some ⟨G2, 0, none⟩) n n)).alloc (.cells #[.slice (some ⟨g, 0, none⟩) n n] 25)
      rw [World.size_alloc] at this
      rw [hw5]
      exact this
    have hx3 : Boxed w5 (w4.heap.size + 1 + 1) 25 (.slice (some ⟨g, 0, none⟩) n n) := by
      have := Boxed.new ((w4.alloc (.cells #[.slice (some ⟨G1, 0, none⟩) n n] 46)).alloc (.cells #[.slice (some ⟨G2, 0, none⟩) n n] 46)) 25 (.slice (some ⟨g, 0, none⟩) n n)
      simp only [World.size_alloc] at this
      rw [hw5]
      exact this
    have HD := Lib.hid (show RenD w5 w.heap.size n (w4.heap.size + 1 + 1) (w4.heap.size + 1) w4.heap.size (.slice (some ⟨g, 0, none⟩) n n) (T3 bs1) (T3 bs2) from ⟨hx3, by omega, by rw [enc_non]; exact HO4.out.below hb5 (Nat.le_refl _), (HP1.out.below hb5 (Nat.le_refl _)).tbE hx1.cell hz4, (HS2.out.below hb5 (Nat.le_refl _)).tbE hx2.cell (by omega)⟩)
    have HB5 := Lib.hid (HB4.out.trans (hb5.mono hz4))
    clear hw5 hb5 hx1 hx2 hx3 HW5
    go_wp2
    go_ret
    exact ⟨_, _, _, _, rfl, HD.out, HB5.out⟩
/-- The automorphisms of a full system. -/
theorem automorphisms_any (n : Nat) (s : Value) (bs : List Blk) (w : World) (h : SB w s bs) (hi : isSysImpl (n : Int) bs = true) (hf : fullB (n : Int) bs = true) :
    Calls Try.prog 70 #[.agg #[.int .i64 (n : Int), s]] w (fun e w' => ∃ Bi Bt Bf v, e = .returned (.func (.func 121) #[] #[.pointer (some ⟨Bi, 0, none⟩), .pointer (some ⟨Bt, 0, none⟩), .pointer (some ⟨Bf, 0, none⟩)]) ∧ RenD w' w.heap.size n Bi Bt Bf v (T3 bs) (T3 bs) ∧ Below w.heap.size w w') := by
  have HA := Lib.hid fun W (hb : Below w.heap.size w W) => renumberings_any n s s bs bs W (h.below hb (Nat.le_refl _)) (h.below hb (Nat.le_refl _)) hi hf hi hf
  obtain ⟨a1, c1, rfl⟩ := h.slice
  have hb0 := (Below.refl w.heap.size w).alloc (Nat.le_refl _) (.cells #[.int .i64 n, .slice a1 bs.length c1] 31)
  clear h hi hf
  go_enter Try.func70, Try.ntmps70
  go_wp2_with fail
  refine (HA.out _ hb0).mono ?_
  rintro e w2 ⟨Bi, Bt, Bf, v, rfl, ⟨d1, d2, d3, d4, d5⟩, hb2⟩
  have HD := Lib.hid (show RenD w2 w.heap.size n Bi Bt Bf v (T3 bs) (T3 bs) from ⟨d1, Nat.le_trans hb0.size d2, d3.baseD hb0.size, d4.fewer (fun i e => by have := hb0.size; omega), d5.fewer (fun i e => by have := hb0.size; omega)⟩)
  clear d1 d2 d3 d4 d5
  go_wp2
  go_ret
  exact ⟨_, _, _, _, rfl, HD.out, hb0.trans (hb2.mono hb0.size)⟩
end Go.Proofs.Ytoicdfdfajfopaa

namespace Go.Proofs.Ytoicdfdfajfopaa
section
variable (n : Nat) (T1 T2 : Nat → Nat → Nat) (P : List Nat → Bool) (most : Nat)
/-- One image after the other, as long as there are fewer than most. -/
def goF (step : Nat → List (List Nat) → List (List Nat)) (is : List Nat) (found : List (List Nat)) : List (List Nat) := is.foldl (fun fd i => if fd.length < most then step i fd else fd) found
def goS : Nat → List Nat → List (List Nat) → List (List Nat)
  | 0, l, found => if P l then found ++ [l] else found
  | d + 1, l, found => goF most (fun i fd => if i ∈ l then fd else if fitM T1 T2 l i then goS d (l ++ [i]) fd else fd) (List.range n) found
end
section
variable {n : Nat} {T1 T2 : Nat → Nat → Nat} {P : List Nat → Bool} {most : Nat}
theorem take_take_app {α : Type} (m : Nat) (A R : List α) : (A.take m ++ R).take m = (A ++ R).take m := by
  by_cases h : m ≤ A.length
  · rw [List.take_append_of_le_length (by rw [List.length_take]; omega), List.take_append_of_le_length h, List.take_take, Nat.min_self]
  · rw [List.take_of_length_le (l := A) (by omega)]
theorem goF_spec {step : Nat → List (List Nat) → List (List Nat)} {g : Nat → List (List Nat)} (hs : ∀ i fd, fd.length < most → step i fd = (fd ++ g i).take most) : ∀ (is : List Nat) (fd : List (List Nat)), fd.length ≤ most → goF most step is fd = (fd ++ is.flatMap g).take most
  | [], fd, h => by
    show fd = _
    rw [List.flatMap_nil, List.append_nil, List.take_of_length_le h]
  | i :: is, fd, h => by
    show goF most step is (if fd.length < most then step i fd else fd) = _
    rw [List.flatMap_cons]
    by_cases hl : fd.length < most
    · rw [if_pos hl, hs i fd hl, goF_spec hs is _ (by rw [List.length_take]; omega), take_take_app, List.append_assoc]
    · have e : fd.length = most := by omega
      rw [if_neg hl, goF_spec hs is fd h, List.take_append_of_le_length (by omega), List.take_append_of_le_length (by omega)]
theorem goS_spec : ∀ (d : Nat) (l : List Nat) (fd : List (List Nat)), fd.length < most → goS n T1 T2 P most d l fd = (fd ++ (goM n T1 T2 d l).filter P).take most
  | 0, l, fd, h => by
    unfold goS goM
    cases hp : P l with
    | true =>
      rw [if_pos rfl, List.take_of_length_le]
      · simp [hp]
      · simp [hp]; omega
    | false =>
      rw [if_neg (by decide), List.take_of_length_le]
      · simp [hp]
      · simp [hp]; omega
  | d + 1, l, fd, h => by
    unfold goS goM
    rw [goF_spec (g := fun i => (if i ∈ l then [] else if fitM T1 T2 l i then goM n T1 T2 d (l ++ [i]) else []).filter P) (fun i fd hf => ?_) (List.range n) fd (by omega)]
    · congr 2
      rw [List.filter_flatMap]
    · have e0 : (fd ++ [].filter P).take most = fd := by
        rw [List.filter_nil, List.append_nil, List.take_of_length_le (by omega)]
      split
      · exact e0.symm
      · split
        · exact goS_spec d _ fd hf
        · exact e0.symm
/-- With the bound 1: the first one. -/
theorem goS_one : goS n T1 T2 P 1 n [] [] = ((goM n T1 T2 n []).filter P).take 1 := by
  rw [goS_spec n [] [] (by simp), List.nil_append]
/-- With a bound that is never met: all. -/
theorem goS_all (h1 : Thd n T1) (h2 : Thd n T2) (hn1 : 1 ≤ n) (hn : n ≤ 15) (hm : 50625 ≤ most) : goS n T1 T2 (fun _ => true) most n [] [] = goM n T1 T2 n [] := by
  have h := isoL_len h1 h2 hn1 hn
  rw [isoL, List.length_map] at h
  rw [goS_spec n [] [] (by show 0 < most; omega), List.nil_append, List.filter_eq_self.2 (fun _ _ => rfl), List.take_of_length_le (by omega)]
end
end Go.Proofs.Ytoicdfdfajfopaa

namespace Go.Proofs.Ytoicdfdfajfopaa
def numL (m : Nat) : List Int := (List.range m).map fun (k : Nat) => (k : Int)
theorem numL_succ (m : Nat) : numL (m + 1) = numL m ++ [(m : Int)] := by simp [numL, List.range_succ]
theorem numL_len (m : Nat) : (numL m).length = m := by simp [numL]
theorem numL_asc (m : Nat) : (numL m).Pairwise (· ≤ ·) := by
  unfold numL
  rw [List.pairwise_map]
  exact List.pairwise_lt_range.imp (by intro a b h; omega)
theorem numL_nodup (m : Nat) : (numL m).Nodup := by
  unfold numL
  rw [List.Nodup, List.pairwise_map]
  exact List.nodup_range.imp fun h e => h (by omega)
end Go.Proofs.Ytoicdfdfajfopaa

namespace Go.Proofs.Ytoicdfdfajfopaa
open Go.RowKit Go.Maps
theorem OwnJ.slice {w : World} {base : Nat} {u : Value} {zs : List Int} (h : OwnJ w base u zs) : ∃ a c, u = .slice a zs.length c := by
  rcases h.2 with ⟨rfl, h0⟩ | ⟨g, cap, cur, rfl, _⟩
  · exact ⟨none, 0, by rw [h0]⟩
  · exact ⟨_, _, rfl⟩
end Go.Proofs.Ytoicdfdfajfopaa

namespace Go.Proofs.Ytoicdfdfajfopaa
/-- How many pairs of the list have the point. -/
def cntP (L : List (Int × Int)) (p : Int) : Nat := L.countP fun q => decide (q.1 = p) || decide (q.2 = p)
theorem cntP_append (L M : List (Int × Int)) (p : Int) : cntP (L ++ M) p = cntP L p + cntP M p := by simp [cntP]
theorem filter_append' {α : Type} (l m : List α) (p : α → Bool) : (l ++ m).filter p = l.filter p ++ m.filter p := by simp
theorem rowL_filter (P : Int → Int → Bool) (a : Nat) : ∀ n, rowL P a n = (rowL (fun _ _ => true) a n).filter fun q => P q.1 q.2
  | 0 => rfl
  | n + 1 => by
    unfold rowL
    rw [List.filter_append, ← rowL_filter P a n]
    cases hp : P (a : Int) ((a : Int) + 1 + n) <;> simp [hp]
theorem leftL_filter (P : Int → Int → Bool) (v : Nat) : ∀ a, leftL P v a = (leftL (fun _ _ => true) v a).filter fun q => P q.1 q.2
  | 0 => rfl
  | a + 1 => by
    unfold leftL
    rw [List.filter_append, ← leftL_filter P v a, ← rowL_filter]
theorem rowT_mem (a : Nat) : ∀ n (q : Int × Int), q ∈ rowL (fun _ _ => true) a n ↔ q.1 = a ∧ (a : Int) < q.2 ∧ q.2 ≤ (a : Int) + n
  | 0, q => by
    simp only [rowL, List.not_mem_nil, false_iff]
    omega
  | n + 1, q => by
    obtain ⟨x, y⟩ := q
    unfold rowL
    rw [List.mem_append, rowT_mem a n]
    simp only [if_true, List.mem_singleton, Prod.mk.injEq]
    omega
theorem leftT_mem (v : Nat) : ∀ a (q : Int × Int), a ≤ v → (q ∈ leftL (fun _ _ => true) v a ↔ 0 ≤ q.1 ∧ q.1 < a ∧ q.1 < q.2 ∧ q.2 < v)
  | 0, q, _ => by
    simp only [leftL, List.not_mem_nil, false_iff]
    omega
  | a + 1, q, h => by
    unfold leftL
    rw [List.mem_append, leftT_mem v a q (by omega), rowT_mem]
    omega
theorem rowT_nodup (a : Nat) : ∀ n, (rowL (fun _ _ => true) a n).Nodup
  | 0 => by simp [rowL]
  | n + 1 => by
    unfold rowL
    rw [List.nodup_append]
    refine ⟨rowT_nodup a n, by simp, fun x hx y hy => ?_⟩
    rw [rowT_mem] at hx
    simp only [if_true, List.mem_singleton] at hy
    subst hy
    intro e
    rw [e] at hx
    dsimp only at hx
    omega
theorem leftT_nodup (v : Nat) : ∀ a, a ≤ v → (leftL (fun _ _ => true) v a).Nodup
  | 0, _ => by simp [leftL]
  | a + 1, h => by
    unfold leftL
    rw [List.nodup_append]
    refine ⟨leftT_nodup v a (by omega), rowT_nodup a _, fun x hx y hy => ?_⟩
    rw [leftT_mem v a x (by omega)] at hx
    rw [rowT_mem] at hy
    intro e
    rw [e] at hx
    omega
theorem leftT_cnt : ∀ v : Fin 16, ∀ p : Fin 16, p.val < v.val → cntP (leftL (fun _ _ => true) v.val v.val) (p.val : Int) = v.val - 1 := by decide +kernel
/-- Two lists without doubles with the same members that pass a test pass it equally often. -/
theorem nodup_count {α : Type} [DecidableEq α] {l m : List α} (hl : l.Nodup) (hm : m.Nodup) (P Q : α → Bool) (h : ∀ x, (x ∈ l ∧ P x = true) ↔ (x ∈ m ∧ Q x = true)) : l.countP P = m.countP Q := by
  rw [List.countP_eq_length_filter, List.countP_eq_length_filter]
  apply Nat.le_antisymm
  · exact nodup_length _ _ (hl.sublist List.filter_sublist) fun x hx => List.mem_filter.2 ((h x).1 (List.mem_filter.1 hx))
  · exact nodup_length _ _ (hm.sublist List.filter_sublist) fun x hx => List.mem_filter.2 ((h x).2 (List.mem_filter.1 hx))
theorem cnt_pairs {v : Int} {x : Blk} (hx : goodB v x = true) (p : Int) : cntP (pairsL x) p = if hasB x p then 2 else 0 := by
  rw [goodB_iff] at hx
  unfold cntP pairsL hasB
  simp only [List.countP_cons, List.countP_nil]
  by_cases h1 : x.a = p <;> by_cases h2 : x.b = p <;> by_cases h3 : x.c = p <;> simp [h1, h2, h3, eq_comm] <;> omega
theorem cnt_flat {v : Int} (p : Int) : ∀ bs : List Blk, (∀ x ∈ bs, goodB v x = true) → cntP (bs.flatMap pairsL) p = 2 * (bs.filter fun x => hasB x p).length
  | [], _ => by simp [cntP]
  | x :: r, h => by
    rw [List.flatMap_cons, cntP_append, cnt_pairs (h x (by simp)), cnt_flat p r (fun y hy => h y (by simp [hy])), List.filter_cons]
    split <;> simp <;> omega
theorem upTo_cnt (p : Int) (bs : List Blk) : ∀ k, k ≤ bs.length → (upTo p bs k).length = ((bs.take k).filter fun x => hasB x p).length
  | 0, _ => rfl
  | k + 1, h => by
    rw [upTo_succ, List.length_append, upTo_cnt p bs k (by omega), List.take_add_one, List.filter_append, List.length_append, List.getElem?_eq_getElem (by omega)]
    simp only [Option.getD_some, Option.toList_some, List.filter_cons, List.filter_nil]
    split <;> rfl
/-- The leave degrees of the points. -/
def lvL (v : Nat) (bs : List Blk) : List Int := (List.range v).map fun (p : Nat) => (cntP (leftL (notIn (bs.flatMap pairsL)) v v) (p : Int) : Int)
theorem lv_at {v : Nat} {bs : List Blk} (h : isSysImpl (v : Int) bs = true) {p : Nat} (hp : p < v) :
    (cntP (leftL (notIn (bs.flatMap pairsL)) v v) (p : Int) : Int) = (v : Int) - 1 - 2 * ((idxI (p : Int) bs bs.length).length : Int) := by
  obtain ⟨h3, h15, hg, hs⟩ := sys_parts h
  have hn : (bs.flatMap pairsL).Nodup := by simpa [prs] using share_nodup h15 bs [] hg (by simp) hs
  have hin : ∀ q ∈ bs.flatMap pairsL, q ∈ leftL (fun _ _ => true) v v := fun q hq => by
    obtain ⟨x, hx, hqx⟩ := List.mem_flatMap.1 hq
    have := hg x hx
    rw [goodB_iff] at this
    rw [leftT_mem v v q (Nat.le_refl _)]
    simp only [pairsL, List.mem_cons, List.not_mem_nil, or_false] at hqx
    rcases hqx with rfl | rfl | rfl <;> (dsimp only; omega)
  have hA : cntP (leftL (fun _ _ => true) v v) (p : Int) = v - 1 := leftT_cnt ⟨v, by omega⟩ ⟨p, by omega⟩ hp
  have hB : cntP (bs.flatMap pairsL) (p : Int) = 2 * (idxI (p : Int) bs bs.length).length := by
    rw [cnt_flat (p : Int) bs hg, idxI, List.length_map, upTo_cnt _ _ _ (Nat.le_refl _), List.take_length]
  have hL := leftL_filter (notIn (bs.flatMap pairsL)) v v
  have hsplit : cntP (leftL (fun _ _ => true) v v) (p : Int) = cntP (leftL (notIn (bs.flatMap pairsL)) v v) (p : Int) + cntP (bs.flatMap pairsL) (p : Int) := by
    rw [hL]
    have e : cntP (bs.flatMap pairsL) (p : Int) = ((leftL (fun _ _ => true) v v).filter fun q => !notIn (bs.flatMap pairsL) q.1 q.2).countP fun q => decide (q.1 = (p : Int)) || decide (q.2 = (p : Int)) := by
      unfold cntP
      refine nodup_count hn ((leftT_nodup v v (Nat.le_refl _)).sublist List.filter_sublist) _ _ fun q => ?_
      rw [List.mem_filter]
      constructor
      · rintro ⟨h1, h2⟩
        exact ⟨⟨hin q h1, by simpa [notIn] using h1⟩, h2⟩
      · rintro ⟨⟨_, h1⟩, h2⟩
        exact ⟨by simpa [notIn] using h1, h2⟩
    rw [e]
    unfold cntP
    rw [List.countP_filter, List.countP_filter]
    induction leftL (fun _ _ => true) v v with
    | nil => rfl
    | cons q r ih =>
      simp only [List.countP_cons, ih]
      cases notIn (bs.flatMap pairsL) q.1 q.2 <;> cases (decide (q.1 = (p : Int)) || decide (q.2 = (p : Int))) <;> simp <;> omega
  omega
end Go.Proofs.Ytoicdfdfajfopaa

namespace Go.Proofs.Ytoicdfdfajfopaa
open Go.RowKit Go.Maps
/-- How often each of the first v points is in the pairs of the list. -/
def cnV (v : Nat) (L : List (Int × Int)) : List Int := (List.range v).map fun (p : Nat) => (cntP L (p : Int) : Int)
theorem cnV_len (v : Nat) (L : List (Int × Int)) : (cnV v L).length = v := by simp [cnV]
theorem cnV_at {v : Nat} (L : List (Int × Int)) {p : Nat} (hp : p < v) : (cnV v L)[p]?.getD 0 = (cntP L (p : Int) : Int) := by simp [cnV, hp]
theorem cnV_nil (v : Nat) : cnV v [] = List.replicate v 0 := by
  apply List.ext_getElem
  · simp [cnV]
  · intro i h1 h2
    simp [cnV, cntP]
theorem cnt_le (L : List (Int × Int)) (p : Int) : cntP L p ≤ L.length := List.countP_le_length
/-- One end of a pair counted. -/
def cnH (v : Nat) (L : List (Int × Int)) (a : Nat) : List Int := (cnV v L).set a ((cntP L (a : Int) : Int) + 1)
theorem cnH_len (v : Nat) (L : List (Int × Int)) (a : Nat) : (cnH v L a).length = v := by simp [cnH, cnV_len]
theorem cnH_at {v : Nat} (L : List (Int × Int)) {a b : Nat} (hb : b < v) (hab : a ≠ b) : (cnH v L a)[b]?.getD 0 = (cntP L (b : Int) : Int) := by
  unfold cnH
  rw [List.getElem?_set_ne hab, cnV_at L hb]
theorem cnH_set {v : Nat} (L : List (Int × Int)) {a b : Nat} (_ha : a < v) (_hb : b < v) (_hab : a ≠ b) : (cnH v L a).set b ((cntP L (b : Int) : Int) + 1) = cnV v (L ++ [((a : Int), (b : Int))]) := by
  unfold cnH
  apply List.ext_getElem
  · simp [cnV]
  · intro i h1 h2
    rw [List.getElem_set, List.getElem_set]
    simp only [cnV, List.getElem_map, List.getElem_range, cntP_append]
    have e : cntP [((a : Int), (b : Int))] (i : Int) = if a = i ∨ b = i then 1 else 0 := by
      unfold cntP
      rw [List.countP_cons, List.countP_nil]
      by_cases h1 : a = i <;> by_cases h2 : b = i <;> simp [h1, h2]
      · simp [show (a : Int) ≠ (i : Int) by omega, show (b : Int) ≠ (i : Int) by omega]
    rw [e]
    by_cases h1 : b = i
    · subst h1
      simp
    · by_cases h2 : a = i
      · subst h2
        simp [h1]
      · simp [h1, h2]
theorem left_rows {v : Nat} {P : Int → Int → Bool} {k : Nat} (hk : k < (leftL P v v).length) :
    ∃ a b : Nat, a < v ∧ b < v ∧ a ≠ b ∧ fnL (leftL P v v) k = [(a : Int), (b : Int)] ∧ (leftL P v v).take (k + 1) = (leftL P v v).take k ++ [((a : Int), (b : Int))] := by
  obtain ⟨p, hp⟩ : ∃ p, p = (leftL P v v)[k] := ⟨_, rfl⟩
  have e1 : (leftL P v v)[k]? = some p := by rw [List.getElem?_eq_getElem hk, hp]
  have hm3 : 0 ≤ p.1 ∧ p.1 < v ∧ p.1 < p.2 ∧ p.2 < v := by
    rw [hp]
    have hq : (leftL P v v)[k] ∈ leftL P v v := List.getElem_mem hk
    generalize (leftL P v v)[k] = q at hq ⊢
    rw [leftL_filter] at hq
    exact (leftT_mem v v _ (Nat.le_refl _)).1 (List.mem_filter.1 hq).1
  obtain ⟨x, y⟩ := p
  dsimp only at hm3
  refine ⟨x.toNat, y.toNat, by omega, by omega, by omega, ?_, ?_⟩
  · rw [Int.toNat_of_nonneg (by omega), Int.toNat_of_nonneg (by omega)]
    unfold fnL
    rw [e1]
    rfl
  · rw [Int.toNat_of_nonneg (by omega), Int.toNat_of_nonneg (by omega), List.take_add_one, e1]
    rfl
theorem resSS_form {w : World} {lo n : Nat} {u : Value} {F : Nat → List Int} (h : ResSS w lo u n F) : ∃ a c, u = .slice a n c := by
  rcases h with ⟨rfl, a, c, rfl⟩ | ⟨G, cap, gs, caps, rfl, _⟩ <;> exact ⟨_, _, rfl⟩
def lvF (v : Int) (bs : List Blk) : List Int × Int := if isSysImpl v bs then (lvL v.toNat bs, 0) else ([], 1)
theorem lvF_len (v : Int) (bs : List Blk) : (lvF v bs).1.length ≤ 1100000 := by
  unfold lvF
  cases hi : isSysImpl v bs with
  | false => simp
  | true =>
    have := (sys_size hi).2.1
    simp [lvL]
    omega
end Go.Proofs.Ytoicdfdfajfopaa


/- The laws' copies of rows of integers, and how much they hold. Linear algebra modulo 2 and 3, plain: spans, leads, and that the number of leads is told by the span. The program's basis, the model's rank, plain: both tell the rank. The laws' copies of rows of rows, and how much they hold. The laws' copy of rows of rows. Blocks in ascending order: plain facts. Plain facts on trades, without the program. Walks by two involutions, by turns: plain. The pairs of a list of blocks, as a map. -/
import Derived.Test.YtahgialnhomefaaJ4
namespace Go.Proofs.Ytahgialnhomefaa
open Go.RowKit Go.Maps
theorem copy_next (zs : List Int) {k : Nat} (hk : k < zs.length) : (zs.take k ++ List.replicate (zs.length - k) 0).set k (zs[k]?.getD 0) = zs.take (k + 1) ++ List.replicate (zs.length - (k + 1)) 0 := by
  rw [show zs.length - k = (zs.length - (k + 1)) + 1 by omega, List.replicate_succ, List.set_append_right _ _ (by simp; omega), List.length_take, show k - min k zs.length = 0 by omega, List.set_cons_zero, List.take_add_one, List.append_assoc]
  simp [hk]
set_option maxRecDepth 100000 in
theorem toInt64S_any (s : Value) (zs : List Int) (w : World) (h : IB w s zs) :
    Calls Try.prog 38 #[s] w (fun e w' => e = .returned (.slice (some ⟨w.heap.size, 0, none⟩) zs.length zs.length) ∧ Below w.heap.size w w' ∧ OwnAtI w' w.heap.size zs) := by
  obtain ⟨hlen, h3⟩ := h
  rcases h3 with ⟨a0, c0, rfl, rfl⟩ | ⟨b, off, cap, rfl, hlt, hI⟩
  · have hm := mkRow 0 (by omega)
    simp only [Int.natCast_zero] at hm
    clear hlen
    go_enter Try.func38, Try.ntmps38
    go_wp2
    refine wp_loop_rounds 1 ?_
    rw [rounds_succ]
    go_wp2
    go_ret
    exact ⟨rfl, (Below.refl _ _).alloc (Nat.le_refl _) _, ⟨by simp, fun k hk => by simp at hk, fun o => by simp⟩⟩
  · have hm := mkRow zs.length hlen
    have HI := Lib.hid hI
    clear hI
    go_enter Try.func38, Try.ntmps38
    go_wp2
    go_loopw [4] (fun i wr => ∃ k : Nat, k ≤ zs.length ∧ i = .int .i64 k ∧ Below w.heap.size w wr ∧ OwnAtI wr w.heap.size (zs.take k ++ List.replicate (zs.length - k) 0)) (fun i _ => zs.length - (intOf i).toNat)
    case atStart => exact ⟨0, Nat.zero_le _, rfl, (Below.refl _ _).alloc (Nat.le_refl _) _, by simpa using made_ints w zs.length _⟩
    case round =>
      obtain ⟨k, hk, rfl, hB, ho⟩ := hrel
      by_cases hkl : k < zs.length
      · have c0 := (hB.cell (p := ⟨b, off + k, none⟩) hlt).trans (HI.out k hkl)
        have hlk : k < (zs.take k ++ List.replicate (zs.length - k) 0).length := by simp; omega
        have c1 := ho.at_ k hlk
        rw [Nat.zero_add] at c1
        have f1 := ho.free
        have hs := Ints.set ho.at_ hlk (zs[k]?.getD 0)
        rw [copy_next zs hkl] at hs
        have hzlt := ho.lt
        obtain ⟨z, hz⟩ : ∃ z, z = zs[k]?.getD 0 := ⟨_, rfl⟩
        rw [← hz] at c0 hs
        have HS := Lib.hid hs
        clear hz hs ho
        have g0 : (0 : Int) ≤ (k : Int) := by omega
        have g1 : (k : Int) < (zs.length : Int) := by omega
        go_wp2
        go_roundw
        case rel => exact ⟨k + 1, by omega, by go_num, hB.setCell (p := ⟨w.heap.size, k, none⟩) (Nat.le_refl _) _, ⟨by simpa [World.setCell] using hzlt, HS.out, fun o => by rw [World.frozen?_setCell]; exact f1 o⟩⟩
        case measure => simp [intOf]; omega
      · go_wp2
        go_ret
        have e : k = zs.length := by omega
        subst e
        exact ⟨rfl, hB, by simpa using ho⟩
end Go.Proofs.Ytahgialnhomefaa

namespace Go.Proofs.Ytahgialnhomefaa
/-- A vector: its number at each place. -/
abbrev Vec := Nat → Int
def P23 (p : Int) : Prop := p = 2 ∨ p = 3
/-- The span of some vectors modulo p. -/
inductive Sp (p : Int) (S : Vec → Prop) : Vec → Prop
  | zero {f : Vec} (h : ∀ j, f j % p = 0) : Sp p S f
  | step {f b g : Vec} (c : Int) (hb : S b) (hg : Sp p S g) (h : ∀ j, (f j - g j - c * b j) % p = 0) : Sp p S f
theorem em {p a b : Int} (h : (a - b) % p = 0) : a % p = b % p := (Int.emod_eq_emod_iff_emod_sub_eq_zero).2 h
theorem em' {p a b : Int} (h : a % p = b % p) : (a - b) % p = 0 := (Int.emod_eq_emod_iff_emod_sub_eq_zero).1 h
theorem dv {p a : Int} : a % p = 0 ↔ p ∣ a := ⟨Int.dvd_of_emod_eq_zero, Int.emod_eq_zero_of_dvd⟩
theorem add0 {p a b : Int} (ha : a % p = 0) (hb : b % p = 0) : (a + b) % p = 0 := dv.2 (Int.dvd_add (dv.1 ha) (dv.1 hb))
theorem mul0 {p b : Int} (c : Int) (hb : b % p = 0) : (c * b) % p = 0 := dv.2 (Int.dvd_mul_of_dvd_right (dv.1 hb))
theorem eq0 {p a b : Int} (h : a % p = 0) (e : b = a) : b % p = 0 := by rw [e]; exact h
theorem p23_mul {p c d : Int} (hp : P23 p) (hc : c % p ≠ 0) (hd : d % p ≠ 0) : (c * d) % p ≠ 0 := by
  rw [Int.mul_emod]
  rcases hp with rfl | rfl
  · have h1 : c % 2 = 1 := by omega
    have h2 : d % 2 = 1 := by omega
    rw [h1, h2]; decide
  · have h1 : c % 3 = 1 ∨ c % 3 = 2 := by omega
    have h2 : d % 3 = 1 ∨ d % 3 = 2 := by omega
    rcases h1 with h1 | h1 <;> rcases h2 with h2 | h2 <;> rw [h1, h2] <;> decide
theorem p23_sq {p d : Int} (hp : P23 p) (hd : d % p ≠ 0) : (d * d - 1) % p = 0 := by
  apply em'
  rw [Int.mul_emod]
  rcases hp with rfl | rfl
  · have h2 : d % 2 = 1 := by omega
    rw [h2]; decide
  · have h2 : d % 3 = 1 ∨ d % 3 = 2 := by omega
    rcases h2 with h2 | h2 <;> rw [h2] <;> decide
variable {p : Int} {S T : Vec → Prop}
theorem Sp.congr {f g : Vec} (h : Sp p S f) (e : ∀ j, (g j - f j) % p = 0) : Sp p S g := by
  cases h with
  | zero hz => exact .zero fun j => eq0 (add0 (e j) (hz j)) (by omega)
  | step c hb hg hh => exact .step c hb hg fun j => eq0 (add0 (e j) (hh j)) (by omega)
theorem Sp.plus {f b : Vec} (c : Int) (hb : S b) (h : Sp p S f) : Sp p S (fun j => f j + c * b j) :=
  .step c hb h fun j => by
    have : f j + c * b j - f j - c * b j = 0 := by omega
    rw [this]; rfl
theorem Sp.of {b : Vec} (hb : S b) : Sp p S b := ((Sp.zero (p := p) (S := S) (f := fun _ => 0) fun _ => by simp).plus 1 hb).congr fun j => by
  have : b j - (0 + 1 * b j) = 0 := by omega
  rw [this]; rfl
theorem Sp.add {f g : Vec} (hf : Sp p S f) (hg : Sp p S g) : Sp p S (fun j => f j + g j) := by
  induction hf with
  | zero hz => exact hg.congr fun j => eq0 (hz j) (by omega)
  | step c hb _ hh ih => exact (ih.plus c hb).congr fun j => eq0 (hh j) (by omega)
theorem Sp.smul {f : Vec} (d : Int) (hf : Sp p S f) : Sp p S (fun j => d * f j) := by
  induction hf with
  | zero hz => exact .zero fun j => mul0 d (hz j)
  | step c hb _ hh ih =>
    refine (ih.plus (d * c) hb).congr fun j => eq0 (mul0 d (hh j)) ?_
    rw [Int.mul_sub, Int.mul_sub, Int.mul_assoc]; omega
theorem Sp.le {f : Vec} (h : ∀ b, S b → Sp p T b) (hf : Sp p S f) : Sp p T f := by
  induction hf with
  | zero hz => exact .zero hz
  | step c hb _ hh ih => exact (ih.add ((h _ hb).smul c)).congr fun j => eq0 (hh j) (by omega)
theorem Sp.mono {f : Vec} (h : ∀ b, S b → T b) (hf : Sp p S f) : Sp p T f := hf.le fun b hb => .of (h b hb)
/-- A place that is 0 in all vectors is 0 in their span. -/
theorem Sp.zeroAt {f : Vec} {j : Nat} (hf : Sp p S f) (h : ∀ b, S b → b j % p = 0) : f j % p = 0 := by
  induction hf with
  | zero hz => exact hz j
  | step c hb _ hh ih => exact eq0 (add0 (add0 (hh j) (mul0 c (h _ hb))) ih) (by omega)
/-- The first place that is not 0. -/
def Lead (p : Int) (f : Vec) (l : Nat) : Prop := f l % p ≠ 0 ∧ ∀ j, j < l → f j % p = 0
theorem Lead.unique {f : Vec} {l m : Nat} (h : Lead p f l) (h2 : Lead p f m) : l = m := by
  rcases Nat.lt_trichotomy l m with hl | hl | hl
  · exact absurd (h2.2 l hl) h.1
  · exact hl
  · exact absurd (h.2 m hl) h2.1
theorem lead_or (p : Int) (f : Vec) (n : Nat) : (∀ j, j < n → f j % p = 0) ∨ ∃ l, l < n ∧ Lead p f l := by
  induction n with
  | zero => exact .inl fun j hj => absurd hj (Nat.not_lt_zero j)
  | succ n ih =>
    rcases ih with h | ⟨l, hl, h⟩
    · by_cases hn : f n % p = 0
      · exact .inl fun j hj => by
          rcases Nat.lt_succ_iff_lt_or_eq.1 hj with h1 | rfl
          · exact h j h1
          · exact hn
      · exact .inr ⟨n, Nat.lt_succ_self n, hn, h⟩
    · exact .inr ⟨l, Nat.lt_succ_of_lt hl, h⟩
theorem zero_or_lead (p : Int) (f : Vec) : (∀ j, f j % p = 0) ∨ ∃ l, Lead p f l := by
  by_cases h : ∃ l, Lead p f l
  · exact .inr h
  · refine .inl fun j => ?_
    rcases lead_or p f (j + 1) with hz | ⟨l, _, hl⟩
    · exact hz j (Nat.lt_succ_self j)
    · exact absurd ⟨l, hl⟩ h
theorem Lead.congr {f g : Vec} {l : Nat} (h : Lead p f l) (e : ∀ j, (g j - f j) % p = 0) : Lead p g l := by
  have e2 : ∀ j, g j % p = f j % p := fun j => em (e j)
  exact ⟨by rw [e2]; exact h.1, fun j hj => by rw [e2]; exact h.2 j hj⟩
/-- Leads of a list of vectors. -/
inductive Leads (p : Int) : List Vec → List Nat → Prop
  | nil : Leads p [] []
  | cons {b : Vec} {B : List Vec} {l : Nat} {ls : List Nat} (hl : Lead p b l) (hn : l ∉ ls) (h : Leads p B ls) : Leads p (b :: B) (l :: ls)
theorem Leads.len {B : List Vec} {ls : List Nat} (h : Leads p B ls) : ls.length = B.length := by
  induction h with
  | nil => rfl
  | cons _ _ _ ih => simp [ih]
theorem Leads.nodup {B : List Vec} {ls : List Nat} (h : Leads p B ls) : ls.Nodup := by
  induction h with
  | nil => exact List.nodup_nil
  | cons _ hn _ ih => exact List.nodup_cons.2 ⟨hn, ih⟩
theorem Leads.has {B : List Vec} {ls : List Nat} (h : Leads p B ls) : ∀ l ∈ ls, ∃ b ∈ B, Lead p b l := by
  induction h with
  | nil => intro l hl; cases hl
  | cons hl _ _ ih =>
    intro m hm
    rcases List.mem_cons.1 hm with rfl | hm
    · exact ⟨_, List.mem_cons_self, hl⟩
    · obtain ⟨b, hb, h⟩ := ih m hm
      exact ⟨b, List.mem_cons_of_mem _ hb, h⟩
/-- What is in the span of b and others is a multiple of b and something in the span of the others. -/
theorem Sp.split {b : Vec} {f : Vec} (hf : Sp p (fun x => x = b ∨ S x) f) : ∃ c g, Sp p S g ∧ ∀ j, (f j - g j - c * b j) % p = 0 := by
  induction hf with
  | zero hz => exact ⟨0, fun _ => 0, .zero fun _ => by simp, fun j => eq0 (hz j) (by simp)⟩
  | step c hb _ hh ih =>
    obtain ⟨d, g, hg, h⟩ := ih
    rcases hb with rfl | hb
    · refine ⟨c + d, g, hg, fun j => eq0 (add0 (hh j) (h j)) ?_⟩
      rw [Int.add_mul]; omega
    · refine ⟨d, _, hg.plus c hb, fun j => eq0 (add0 (hh j) (h j)) ?_⟩
      show _ = _
      omega
theorem Leads.lead (hp : P23 p) {B : List Vec} {ls : List Nat} (h : Leads p B ls) : ∀ {f : Vec} {m : Nat}, Sp p (· ∈ B) f → Lead p f m → m ∈ ls := by
  induction h with
  | nil =>
    intro f m hf hm
    cases hf with
    | zero hz => exact absurd (hz m) hm.1
    | step c hb _ _ => cases hb
  | @cons b B l ls hl hn hB ih =>
    intro f m hf hm
    obtain ⟨c, g, hg, he⟩ := Sp.split (S := (· ∈ B)) (hf.mono fun x hx => List.mem_cons.1 hx)
    by_cases hc : c % p = 0
    · have : Lead p g m := hm.congr fun j => by
        have h1 := he j
        have h2 : (c * b j) % p = 0 := by rw [Int.mul_comm]; exact mul0 (b j) hc
        have h3 : (f j - g j) % p = 0 := eq0 (add0 h1 h2) (by omega)
        have h4 := mul0 (-1) h3
        exact eq0 h4 (by omega)
      exact List.mem_cons_of_mem _ (ih hg this)
    · rcases zero_or_lead p g with hz | ⟨k, hk⟩
      · have : Lead p b m := by
          have hfb : ∀ j, f j % p = (c * b j) % p := fun j => em (eq0 (add0 (he j) (hz j)) (by omega))
          refine ⟨fun h0 => hm.1 ?_, fun j hj => ?_⟩
          · rw [hfb]; exact mul0 c h0
          · have := hm.2 j hj
            rw [hfb] at this
            exact Decidable.byContradiction fun h0 => p23_mul hp hc h0 this
        rw [this.unique hl]; exact List.mem_cons_self
      · have hkl : k ∈ ls := ih hg hk
        have hne : k ≠ l := fun h0 => hn (h0 ▸ hkl)
        have hfb : ∀ j, f j % p = (g j + c * b j) % p := fun j => em (eq0 (he j) (by omega))
        rcases Nat.lt_or_gt_of_ne hne with hlt | hgt
        · have : Lead p f k := by
            refine ⟨fun h0 => hk.1 ?_, fun j hj => ?_⟩
            · rw [hfb] at h0
              have h1 := mul0 (-c) (hl.2 k hlt)
              have h2 := add0 h0 h1
              refine eq0 h2 ?_
              rw [Int.neg_mul]; omega
            · rw [hfb]; exact add0 (hk.2 j hj) (mul0 c (hl.2 j (by omega)))
          rw [hm.unique this]; exact List.mem_cons_of_mem _ hkl
        · have : Lead p f l := by
            refine ⟨fun h0 => p23_mul hp hc hl.1 ?_, fun j hj => ?_⟩
            · rw [hfb] at h0
              have h1 := mul0 (-1) (hk.2 l hgt)
              have h2 := add0 h0 h1
              exact eq0 h2 (by omega)
            · rw [hfb]; exact add0 (hk.2 j (by omega)) (mul0 c (hl.2 j hj))
          rw [hm.unique this]; exact List.mem_cons_self
theorem nodup_le {α : Type} [DecidableEq α] : ∀ {l m : List α}, l.Nodup → (∀ x ∈ l, x ∈ m) → l.length ≤ m.length := by
  intro l
  induction l with
  | nil => intro m _ _; exact Nat.zero_le _
  | cons x l ih =>
    intro m hn hs
    obtain ⟨h1, h2⟩ := List.nodup_cons.1 hn
    have hx : x ∈ m := hs x List.mem_cons_self
    have := ih (m := m.erase x) h2 fun y hy => (List.mem_erase_of_ne (fun (e : y = x) => h1 (e ▸ hy))).2 (hs y (List.mem_cons_of_mem _ hy))
    rw [List.length_erase_of_mem hx] at this
    have : 0 < m.length := List.length_pos_of_mem hx
    simp only [List.length_cons]
    omega
/-- Two lists of vectors with different leads and the same span are as long. -/
theorem rank_same (hp : P23 p) {B C : List Vec} {ls ms : List Nat} (hB : Leads p B ls) (hC : Leads p C ms) (h1 : ∀ b ∈ B, Sp p (· ∈ C) b) (h2 : ∀ c ∈ C, Sp p (· ∈ B) c) : B.length = C.length := by
  rw [← hB.len, ← hC.len]
  apply Nat.le_antisymm
  · refine nodup_le hB.nodup fun l hl => ?_
    obtain ⟨b, hb, hbl⟩ := hB.has l hl
    exact hC.lead hp (h1 b hb) hbl
  · refine nodup_le hC.nodup fun l hl => ?_
    obtain ⟨b, hb, hbl⟩ := hC.has l hl
    exact hB.lead hp (h2 b hb) hbl
theorem Leads.snoc {B : List Vec} {ls : List Nat} {b : Vec} {l : Nat} (h : Leads p B ls) (hl : Lead p b l) (hn : l ∉ ls) : Leads p (B ++ [b]) (ls ++ [l]) := by
  induction h with
  | nil => exact .cons hl (by simp) .nil
  | cons hl2 hn2 _ ih =>
    refine .cons hl2 (fun hm => ?_) (ih fun hm => hn (List.mem_cons_of_mem _ hm))
    rcases List.mem_append.1 hm with hm | hm
    · exact hn2 hm
    · rw [List.mem_singleton] at hm
      exact hn (hm ▸ List.mem_cons_self)
end Go.Proofs.Ytahgialnhomefaa

namespace Go.Proofs.Ytahgialnhomefaa
def vec (r : List Int) : Vec := fun j => r[j]?.getD 0
/-- A row of n numbers modulo p. -/
def Wf (p : Int) (n : Nat) (r : List Int) : Prop := r.length = n ∧ ∀ x ∈ r, 0 ≤ x ∧ x < p
theorem vec_out {r : List Int} {j : Nat} (h : r.length ≤ j) : vec r j = 0 := by simp [vec, List.getElem?_eq_none h]
theorem vec_at {r : List Int} {j : Nat} (h : j < r.length) : vec r j = r[j] := by simp [vec, h]
variable {p : Int} {n : Nat}
theorem Wf.at {r : List Int} (h : Wf p n r) (hp : 0 < p) (j : Nat) : 0 ≤ vec r j ∧ vec r j < p := by
  by_cases hj : j < r.length
  · rw [vec_at hj]; exact h.2 _ (List.getElem_mem hj)
  · rw [vec_out (by omega)]; omega
theorem Wf.mod {r : List Int} (h : Wf p n r) (hp : 0 < p) (j : Nat) : vec r j % p = vec r j := Int.emod_eq_of_lt (h.at hp j).1 (h.at hp j).2
theorem P23.pos (hp : P23 p) : 0 < p := by rcases hp with rfl | rfl <;> decide
/-- w and so many times o. -/
def addL (p t : Int) (o w : List Int) : List Int := List.zipWith (fun x y => (x + t * y) % p) w o
theorem addL_len (p t : Int) (o w : List Int) : (addL p t o w).length = min w.length o.length := by simp [addL]
theorem addL_at {t : Int} {o w : List Int} (hw : w.length = n) (ho : o.length = n) {j : Nat} (hj : j < n) : vec (addL p t o w) j = (vec w j + t * vec o j) % p := by
  have h1 : j < w.length := by omega
  have h2 : j < o.length := by omega
  rw [vec_at (by rw [addL_len]; omega), vec_at h1, vec_at h2]
  simp [addL]
theorem addL_any {t : Int} {o w : List Int} (hw : w.length = n) (ho : o.length = n) (j : Nat) : vec (addL p t o w) j = (vec w j + t * vec o j) % p := by
  by_cases hj : j < n
  · exact addL_at hw ho hj
  · rw [vec_out (by rw [addL_len]; omega), vec_out (by omega), vec_out (by omega)]; simp
theorem addL_mod {t : Int} {o w : List Int} (hw : w.length = n) (ho : o.length = n) (j : Nat) : (vec (addL p t o w) j - vec w j - t * vec o j) % p = 0 := by
  rw [addL_any hw ho]
  have h1 : ((vec w j + t * vec o j) % p - (vec w j + t * vec o j)) % p = 0 := em' (Int.emod_emod_of_dvd _ (Int.dvd_refl p))
  exact eq0 h1 (by omega)
theorem addL_wf (hp : 0 < p) {t : Int} {o w : List Int} (hw : w.length = n) (ho : o.length = n) : Wf p n (addL p t o w) := by
  refine ⟨by rw [addL_len]; omega, fun x hx => ?_⟩
  obtain ⟨j, hj, rfl⟩ := List.getElem_of_mem hx
  rw [← vec_at hj, addL_any hw ho]
  exact ⟨Int.emod_nonneg _ (by omega), Int.emod_lt_of_pos _ hp⟩
/-- The first place at which a row is not 0. -/
def ldL (r : List Int) : Nat := r.findIdx (fun x => decide (x ≠ 0))
theorem ldL_lead (hp : P23 p) {r : List Int} (hw : Wf p n r) (hne : ∃ x ∈ r, x ≠ 0) : Lead p (vec r) (ldL r) ∧ ldL r < n := by
  have hlt : ldL r < r.length := List.findIdx_lt_length.2 (by obtain ⟨x, hx, h⟩ := hne; exact ⟨x, hx, by simpa using h⟩)
  refine ⟨⟨?_, fun j hj => ?_⟩, by have := hw.1; omega⟩
  · rw [hw.mod hp.pos, vec_at hlt]
    exact of_decide_eq_true (List.findIdx_getElem (xs := r) (p := fun x => decide (x ≠ 0)) (w := hlt))
  · rw [hw.mod hp.pos, vec_at (by omega)]
    have := List.not_of_lt_findIdx (xs := r) (p := fun x => decide (x ≠ 0)) (i := j) hj
    simpa using this
/-- One step of reducing. -/
def redS (p : Int) (w o : List Int) : List Int := addL p (vec w (ldL o) * vec o (ldL o) * (p - 1)) o w
def redL (p : Int) (w : List Int) (B : List (List Int)) : List Int := B.foldl (redS p) w
theorem redL_snoc (w : List Int) (B : List (List Int)) (o : List Int) : redL p w (B ++ [o]) = redS p (redL p w B) o := by simp [redL]
theorem redL_wf (hp : P23 p) {w : List Int} (hw : Wf p n w) : ∀ {B : List (List Int)}, (∀ b ∈ B, Wf p n b) → Wf p n (redL p w B) := by
  intro B
  induction B generalizing w with
  | nil => exact fun _ => hw
  | cons b B ih => exact fun h => ih (w := redS p w b) (addL_wf hp.pos hw.1 (h b List.mem_cons_self).1) fun x hx => h x (List.mem_cons_of_mem _ hx)
/-- A list of rows, each one 0 at the leads of those before it. -/
inductive Ech (p : Int) (n : Nat) : List (List Int) → Prop
  | nil : Ech p n []
  | snoc {B : List (List Int)} {o : List Int} (h : Ech p n B) (hw : Wf p n o) (hne : ∃ x ∈ o, x ≠ 0) (hz : ∀ b ∈ B, vec o (ldL b) = 0) : Ech p n (B ++ [o])
theorem Ech.wf {B : List (List Int)} (h : Ech p n B) : ∀ b ∈ B, Wf p n b := by
  induction h with
  | nil => intro b hb; cases hb
  | snoc _ hw _ _ ih =>
    intro b hb
    rcases List.mem_append.1 hb with hb | hb
    · exact ih b hb
    · rw [List.mem_singleton] at hb; rw [hb]; exact hw
theorem Ech.ne {B : List (List Int)} (h : Ech p n B) : ∀ b ∈ B, ∃ x ∈ b, x ≠ 0 := by
  induction h with
  | nil => intro b hb; cases hb
  | snoc _ _ hw _ ih =>
    intro b hb
    rcases List.mem_append.1 hb with hb | hb
    · exact ih b hb
    · rw [List.mem_singleton] at hb; rw [hb]; exact hw
theorem Ech.leads (hp : P23 p) {B : List (List Int)} (h : Ech p n B) : Leads p (B.map vec) (B.map ldL) := by
  induction h with
  | nil => exact .nil
  | @snoc B o h hw hne hz ih =>
    rw [List.map_append, List.map_append]
    refine ih.snoc (ldL_lead hp hw hne).1 fun hm => ?_
    obtain ⟨b, hb, he⟩ := List.mem_map.1 hm
    have h1 := (ldL_lead hp hw hne).1.1
    rw [← he, hz b hb] at h1
    exact h1 (Int.zero_emod p)
/-- What is reduced is 0 at all leads. -/
theorem redL_zero (hp : P23 p) {w : List Int} (hw : Wf p n w) {B : List (List Int)} (h : Ech p n B) : ∀ b ∈ B, vec (redL p w B) (ldL b) = 0 := by
  induction h with
  | nil => intro b hb; cases hb
  | @snoc B o h ho hne hz ih =>
    intro b hb
    have hr := redL_wf hp hw h.wf
    rw [redL_snoc, redS, addL_any hr.1 ho.1]
    rcases List.mem_append.1 hb with hb | hb
    · rw [ih b hb, hz b hb]; simp
    · rw [List.mem_singleton] at hb
      subst hb
      have h1 := p23_sq hp (ldL_lead hp ho hne).1.1
      have h2 := mul0 (vec (redL p w B) (ldL b) * (p - 1)) h1
      have h3 : (vec (redL p w B) (ldL b) * p) % p = 0 := by simp
      refine eq0 (add0 h2 h3) ?_
      have : ∀ x y : Int, x * y * (p - 1) * y = x * (p - 1) * (y * y) := fun x y => by
        rw [Int.mul_right_comm x y (p - 1), Int.mul_assoc (x * (p - 1)) y y]
      have h5 : vec (redL p w B) (ldL b) * (p - 1) = vec (redL p w B) (ldL b) * p - vec (redL p w B) (ldL b) := by rw [Int.mul_sub, Int.mul_one]
      rw [this, Int.mul_sub (vec (redL p w B) (ldL b) * (p - 1)), Int.mul_one]
      generalize vec (redL p w B) (ldL b) * (p - 1) * (vec b (ldL b) * vec b (ldL b)) = q
      rw [h5]
      omega
/-- Reducing changes a row by what is in the span. -/
theorem redL_span (hp : P23 p) {w : List Int} (hw : Wf p n w) {B : List (List Int)} (h : ∀ b ∈ B, Wf p n b) : Sp p (· ∈ B.map vec) (fun j => vec (redL p w B) j - vec w j) := by
  induction B generalizing w with
  | nil => exact .zero fun j => by show (vec w j - vec w j) % p = 0; simp
  | cons b B ih =>
    have hb := h b List.mem_cons_self
    have h1 := ih (w := redS p w b) (addL_wf hp.pos hw.1 hb.1) fun x hx => h x (List.mem_cons_of_mem _ hx)
    have h2 : Sp p (· ∈ (b :: B).map vec) (fun j => vec (redL p (redS p w b) B) j - vec (redS p w b) j) := h1.mono fun x hx => by simp only [List.map_cons]; exact List.mem_cons_of_mem _ hx
    refine (h2.plus (b := vec b) (vec w (ldL b) * vec b (ldL b) * (p - 1)) (by simp)).congr fun j => ?_
    have h3 := addL_mod (p := p) (t := vec w (ldL b) * vec b (ldL b) * (p - 1)) hw.1 hb.1 j
    refine eq0 h3 ?_
    show vec (redL p (redS p w b) B) j - vec w j - (vec (redL p (redS p w b) B) j - vec (redS p w b) j + _) = _
    unfold redS
    omega
def hasN (r : List Int) : Bool := r.any (fun x => decide (x ≠ 0))
theorem hasN_true {r : List Int} : hasN r = true ↔ ∃ x ∈ r, x ≠ 0 := by simp [hasN]
def basS (p : Int) (B : List (List Int)) (r : List Int) : List (List Int) := if hasN (redL p r B) then B ++ [redL p r B] else B
/-- The program's basis. -/
def basL (p : Int) (R : List (List Int)) : List (List Int) := R.foldl (basS p) []
theorem basL_snoc (R : List (List Int)) (r : List Int) : basL p (R ++ [r]) = basS p (basL p R) r := by simp [basL]
theorem zero_of_hasN {r : List Int} (h : ¬ hasN r = true) (j : Nat) : vec r j = 0 := by
  by_cases hj : j < r.length
  · rw [vec_at hj]
    exact Decidable.byContradiction fun h0 => h (hasN_true.2 ⟨_, List.getElem_mem hj, h0⟩)
  · exact vec_out (by omega)
theorem mem_mapS {B : List (List Int)} {o : List Int} (ho : o ∈ B) : vec o ∈ B.map vec := List.mem_map_of_mem ho
/-- A row is in the span exactly if nothing is left of it. -/
theorem red_word (hp : P23 p) {w : List Int} (hw : Wf p n w) {B : List (List Int)} (h : Ech p n B) : Sp p (· ∈ B.map vec) (vec w) ↔ ¬ hasN (redL p w B) = true := by
  have hs := redL_span hp hw h.wf
  have hr := redL_wf hp hw h.wf
  constructor
  · intro hin hn
    have h1 : Sp p (· ∈ B.map vec) (vec (redL p w B)) := (hs.add hin).congr fun j => by
      have : vec (redL p w B) j - (vec (redL p w B) j - vec w j + vec w j) = 0 := by omega
      rw [this]; rfl
    have hl := ldL_lead hp hr (hasN_true.1 hn)
    obtain ⟨b, hb, he⟩ := List.mem_map.1 ((h.leads hp).lead hp h1 hl.1)
    have h2 := redL_zero hp hw h b hb
    rw [he] at h2
    have h3 := hl.1.1
    rw [h2] at h3
    exact h3 (Int.zero_emod p)
  · intro hn
    refine (hs.smul (-1)).congr fun j => ?_
    rw [zero_of_hasN hn j]
    have : vec w j - -1 * (0 - vec w j) = 0 := by omega
    rw [this]; rfl
theorem snocInd {α : Type} {P : List α → Prop} (h0 : P []) (h1 : ∀ l a, P l → P (l ++ [a])) : ∀ l, P l := by
  intro l
  rw [← List.reverse_reverse l]
  generalize l.reverse = m
  induction m with
  | nil => exact h0
  | cons a m ih => rw [List.reverse_cons]; exact h1 _ _ ih
theorem basL_spec (hp : P23 p) : ∀ {R : List (List Int)}, (∀ r ∈ R, Wf p n r) → Ech p n (basL p R) ∧ (∀ r ∈ R, Sp p (· ∈ (basL p R).map vec) (vec r)) ∧ ∀ b ∈ basL p R, Sp p (· ∈ R.map vec) (vec b) := by
  intro R
  refine snocInd (P := fun R => (∀ r ∈ R, Wf p n r) → Ech p n (basL p R) ∧ (∀ r ∈ R, Sp p (· ∈ (basL p R).map vec) (vec r)) ∧ ∀ b ∈ basL p R, Sp p (· ∈ R.map vec) (vec b)) (fun _ => ⟨.nil, (by intro r hr; cases hr), (by intro r hr; cases hr)⟩) (fun R r ih => ?_) R
  intro hR
  obtain ⟨he, h1, h2⟩ := ih fun x hx => hR x (List.mem_append_left _ hx)
  have hr : Wf p n r := hR r (by simp)
  have hs := redL_span hp hr he.wf
  have hw := redL_wf hp hr he.wf
  rw [basL_snoc, basS]
  by_cases hn : hasN (redL p r (basL p R)) = true
  · rw [if_pos hn]
    have hm : ∀ x, x ∈ (basL p R).map vec → x ∈ (basL p R ++ [redL p r (basL p R)]).map vec := fun x hx => by rw [List.map_append]; exact List.mem_append_left _ hx
    refine ⟨.snoc he hw (hasN_true.1 hn) (redL_zero hp hr he), fun x hx => ?_, fun b hb => ?_⟩
    · rcases List.mem_append.1 hx with hx | hx
      · exact (h1 x hx).mono hm
      · rw [List.mem_singleton] at hx
        subst hx
        have h3 : Sp p (· ∈ (basL p R ++ [redL p x (basL p R)]).map vec) (vec (redL p x (basL p R))) := .of (mem_mapS (by simp))
        refine (h3.add ((hs.mono hm).smul (-1))).congr fun j => ?_
        have : vec x j - (vec (redL p x (basL p R)) j + -1 * (vec (redL p x (basL p R)) j - vec x j)) = 0 := by omega
        rw [this]; rfl
    · have hm2 : ∀ x, x ∈ R.map vec → x ∈ (R ++ [r]).map vec := fun x hx => by rw [List.map_append]; exact List.mem_append_left _ hx
      rcases List.mem_append.1 hb with hb | hb
      · exact (h2 b hb).mono hm2
      · rw [List.mem_singleton] at hb
        subst hb
        have h3 : Sp p (· ∈ (R ++ [r]).map vec) (vec r) := .of (mem_mapS (by simp))
        have h4 : Sp p (· ∈ (R ++ [r]).map vec) (fun j => vec (redL p r (basL p R)) j - vec r j) := hs.le fun b hb => by
          obtain ⟨o, ho, rfl⟩ := List.mem_map.1 hb
          exact (h2 o ho).mono hm2
        refine (h4.add h3).congr fun j => ?_
        have : vec (redL p r (basL p R)) j - (vec (redL p r (basL p R)) j - vec r j + vec r j) = 0 := by omega
        rw [this]; rfl
  · rw [if_neg hn]
    refine ⟨he, fun x hx => ?_, fun b hb => ?_⟩
    · rcases List.mem_append.1 hx with hx | hx
      · exact h1 x hx
      · rw [List.mem_singleton] at hx
        subst hx
        exact (red_word hp hr he).2 hn
    · exact (h2 b hb).mono fun x hx => by rw [List.map_append]; exact List.mem_append_left _ hx
end Go.Proofs.Ytahgialnhomefaa

namespace Go.Proofs.Ytahgialnhomefaa
open Go.RowKit Go.Maps
/-- How many elements rows of these lengths hold, the first k of them. -/
def totL (l : Nat → Nat) : Nat → Nat
  | 0 => 0
  | k + 1 => totL l k + l k
theorem totL_le (l : Nat → Nat) {j n : Nat} (h : j ≤ n) : totL l j ≤ totL l n := by
  induction h with
  | refl => exact Nat.le_refl _
  | step _ ih => exact Nat.le_trans ih (by simp [totL])
/-- A slice of n slices of these lengths. -/
def HeadS (w : World) (s : Value) (n : Nat) (l : Nat → Nat) : Prop :=
  (n = 0 ∧ ∃ a c, s = .slice a 0 c) ∨ ∃ b off cap, s = .slice (some ⟨b, off, none⟩) n cap ∧ ∀ k, k < n → (l k : Int) ≤ 9223372036854775807 ∧ ∃ a c, w.cell? ⟨b, off + k, none⟩ = some (.slice a (l k) c)
theorem HeadS.slice {w : World} {s : Value} {n : Nat} {l : Nat → Nat} (h : HeadS w s n l) : ∃ a c, s = .slice a n c := by
  rcases h with ⟨rfl, a, c, rfl⟩ | ⟨b, off, cap, rfl, _⟩ <;> exact ⟨_, _, rfl⟩
end Go.Proofs.Ytahgialnhomefaa

namespace Go.Proofs.Ytahgialnhomefaa
open Go.RowKit Go.Maps
theorem mkRows (n : Nat) (hn : n ≤ 1100000) (W : World) : (Instr.makeSlice 57 (.int .i64 (n : Int)) (.int .i64 (n : Int))).run Try.prog W = .ok (.slice (some ⟨W.heap.size, 0, none⟩) n n) (W.alloc (.cells (madeCells #[.slice none 0 0] n) 38)) := by
  obtain ⟨i0, hi, hz0, hz1, hz2⟩ := info_parts infoRow
  have hr := run_make (P := Try.prog) W 57 38 i0 (.slice none 0 0) Try.underlying57 hi hz0 .i64 .i64 n n (by omega) (by omega) (by rw [hz2]; omega) (by omega)
  simp only [Int.toNat_natCast, hz1, Nat.mul_one] at hr
  exact hr
end Go.Proofs.Ytahgialnhomefaa

namespace Go.Proofs.Ytahgialnhomefaa
theorem bef_iff (x y : Blk) : befB x y = true ↔ x.a < y.a ∨ (x.a = y.a ∧ (x.b < y.b ∨ (x.b = y.b ∧ x.c < y.c))) := by
  unfold befB
  split
  · split
    · simp; omega
    · simp; omega
  · simp; omega
theorem bef_niff (x y : Blk) : befB x y = false ↔ ¬ (x.a < y.a ∨ (x.a = y.a ∧ (x.b < y.b ∨ (x.b = y.b ∧ x.c < y.c)))) := by
  rw [← bef_iff]; simp
theorem bef_irrefl (x : Blk) : befB x x = false := by rw [bef_niff]; omega
theorem bef_trans {x y z : Blk} (h1 : befB x y = true) (h2 : befB y z = true) : befB x z = true := by
  rw [bef_iff] at *; omega
theorem bef_ntrans {x y z : Blk} (h1 : befB x y = false) (h2 : befB y z = false) : befB x z = false := by
  rw [bef_niff] at *; omega
theorem bef_asymm {x y : Blk} (h : befB x y = true) : befB y x = false := by
  rw [bef_niff]; rw [bef_iff] at h; omega
theorem bef_total {x y : Blk} (h1 : befB x y = false) (h2 : befB y x = false) : x = y := by
  rw [bef_niff] at h1 h2
  obtain ⟨a, b, c⟩ := x
  obtain ⟨d, e, f⟩ := y
  simp only at h1 h2
  simp only [Blk.mk.injEq]
  omega
/-- No block stands behind a greater one. -/
def Srt (l : List Blk) : Prop := l.Pairwise fun x y => befB y x = false
theorem srt_unique {l m : List Blk} (h1 : Srt l) (h2 : Srt m) (hp : l.Perm m) : l = m :=
  List.Perm.eq_of_pairwise (le := fun x y => befB y x = false) (fun _ _ _ _ h1 h2 => bef_total h2 h1) h1 h2 hp
/-- Where x goes in among the first n of l. -/
def posB (x : Blk) (l : List Blk) : Nat → Nat
  | 0 => 0
  | n + 1 => if befB x (l[n]?.getD default) then posB x l n else n + 1
theorem posB_le (x : Blk) (l : List Blk) : ∀ n, posB x l n ≤ n
  | 0 => Nat.le_refl _
  | n + 1 => by
    unfold posB
    split
    · have := posB_le x l n; omega
    · exact Nat.le_refl _
theorem posB_after (x : Blk) (l : List Blk) : ∀ n j, posB x l n ≤ j → j < n → befB x (l[j]?.getD default) = true
  | 0, j, _, h => by omega
  | n + 1, j, h1, h2 => by
    unfold posB at h1
    split at h1
    · by_cases e : j = n
      · subst e; assumption
      · exact posB_after x l n j h1 (by omega)
    · omega
theorem posB_at (x : Blk) (l : List Blk) : ∀ n m, posB x l n = m + 1 → befB x (l[m]?.getD default) = false
  | 0, m, h => by simp [posB] at h
  | n + 1, m, h => by
    unfold posB at h
    split at h
    · exact posB_at x l n m h
    · obtain rfl : m = n := by omega
      exact Bool.eq_false_iff.2 ‹¬ befB _ _ = true›
def insB (x : Blk) (l : List Blk) : List Blk := l.take (posB x l l.length) ++ x :: l.drop (posB x l l.length)
theorem insB_perm (x : Blk) (l : List Blk) : (insB x l).Perm (x :: l) := by
  unfold insB
  refine List.perm_middle.trans ?_
  rw [List.take_append_drop]
theorem insB_length (x : Blk) (l : List Blk) : (insB x l).length = l.length + 1 := by
  rw [(insB_perm x l).length_eq]; rfl
theorem insB_srt {x : Blk} {l : List Blk} (h : Srt l) : Srt (insB x l) := by
  unfold insB Srt
  have hle := posB_le x l l.length
  have hb : ∀ y ∈ l.take (posB x l l.length), befB x y = false := by
    intro y hy
    obtain ⟨i, hi, e⟩ := List.getElem_of_mem hy
    rw [List.length_take] at hi
    rw [List.getElem_take] at e
    obtain ⟨m, hm⟩ : ∃ m, posB x l l.length = m + 1 := ⟨posB x l l.length - 1, by omega⟩
    have hm2 := posB_at x l _ m hm
    have hml : m < l.length := by omega
    rw [List.getElem?_eq_getElem hml, Option.getD_some] at hm2
    by_cases hi2 : i = m
    · subst hi2; rw [← e]; exact hm2
    · have hh := List.pairwise_iff_getElem.1 h i m (by omega) hml (by omega)
      rw [← e]
      exact bef_ntrans hm2 hh
  have ha : ∀ y ∈ l.drop (posB x l l.length), befB x y = true := by
    intro y hy
    obtain ⟨i, hi, e⟩ := List.getElem_of_mem hy
    rw [List.length_drop] at hi
    rw [List.getElem_drop] at e
    have h2 := posB_after x l l.length (posB x l l.length + i) (by omega) (by omega)
    rw [List.getElem?_eq_getElem (by omega), Option.getD_some, e] at h2
    exact h2
  have h0 : Srt (l.take (posB x l l.length) ++ l.drop (posB x l l.length)) := by rw [List.take_append_drop]; exact h
  obtain ⟨h1, h2, h3⟩ := List.pairwise_append.1 h0
  refine List.pairwise_append.2 ⟨h1, List.pairwise_cons.2 ⟨fun y hy => bef_asymm (ha y hy), h2⟩, fun y hy z hz => ?_⟩
  rcases List.mem_cons.1 hz with rfl | hz
  · exact hb y hy
  · exact h3 y hy z hz
/-- The blocks in order. -/
def sortB (bs : List Blk) : List Blk := bs.foldl (fun acc x => insB x acc) []
theorem sortB_snoc (bs : List Blk) (x : Blk) : sortB (bs ++ [x]) = insB x (sortB bs) := by simp [sortB]
theorem foldIns_perm : ∀ (bs acc : List Blk), (bs.foldl (fun acc x => insB x acc) acc).Perm (bs ++ acc)
  | [], acc => List.Perm.refl _
  | x :: r, acc => by
    rw [List.foldl_cons]
    refine (foldIns_perm r _).trans ?_
    refine ((insB_perm x acc).append_left r).trans ?_
    exact List.perm_middle
theorem foldIns_srt : ∀ (bs acc : List Blk), Srt acc → Srt (bs.foldl (fun acc x => insB x acc) acc)
  | [], _, h => h
  | x :: r, acc, h => by
    rw [List.foldl_cons]
    exact foldIns_srt r _ (insB_srt h)
theorem sortB_perm (bs : List Blk) : (sortB bs).Perm bs := by
  have := foldIns_perm bs []
  rwa [List.append_nil] at this
theorem sortB_srt (bs : List Blk) : Srt (sortB bs) := foldIns_srt bs [] List.Pairwise.nil
theorem sortB_length (bs : List Blk) : (sortB bs).length = bs.length := (sortB_perm bs).length_eq
theorem sortB_eq {bs l : List Blk} (h1 : Srt l) (h2 : l.Perm bs) : sortB bs = l := srt_unique (sortB_srt bs) h1 ((sortB_perm bs).trans h2.symm)
theorem sortB_of_perm {bs cs : List Blk} (h : bs.Perm cs) : sortB bs = sortB cs := sortB_eq (sortB_srt cs) ((sortB_perm cs).trans h.symm)
theorem sortB_mem {bs : List Blk} {x : Blk} : x ∈ sortB bs ↔ x ∈ bs := (sortB_perm bs).mem_iff
theorem sortB_merge (bs : List Blk) : bs.mergeSort (fun x y => !befB y x) = sortB bs := by
  refine (sortB_eq ?_ (List.mergeSort_perm _ _)).symm
  have := List.pairwise_mergeSort (le := fun x y => !befB y x) (fun x y z h1 h2 => by
    simp only [Bool.not_eq_true'] at *
    exact bef_ntrans h2 h1) (fun x y => by
    cases h : befB y x
    · simp
    · simp [bef_asymm h]) bs
  exact this.imp fun h => by simpa using h
/-- Blocks in strict order are in order. -/
theorem order_srt {v : Int} : ∀ {bs : List Blk} {p : Option Blk}, orderGo v p bs = true → (bs.Pairwise fun x y => befB x y = true) ∧ ∀ y, p = some y → ∀ x ∈ bs, befB y x = true
  | [], _, _ => ⟨List.Pairwise.nil, by simp⟩
  | x :: r, p, h => by
    simp only [orderGo, Bool.and_eq_true] at h
    obtain ⟨⟨_, h1⟩, h2⟩ := h
    obtain ⟨i1, i2⟩ := order_srt h2
    refine ⟨List.pairwise_cons.2 ⟨fun y hy => i2 x rfl y hy, i1⟩, fun y hy z hz => ?_⟩
    subst hy
    simp only at h1
    rcases List.mem_cons.1 hz with rfl | hz
    · exact h1
    · exact bef_trans h1 (i2 x rfl z hz)
theorem sys_strict {v : Int} {bs : List Blk} (h : isSysImpl v bs = true) : bs.Pairwise fun x y => befB x y = true := by
  simp only [isSysImpl, Bool.and_eq_true] at h
  exact (order_srt h.1.2).1
theorem strict_srt {bs : List Blk} (h : bs.Pairwise fun x y => befB x y = true) : Srt bs := h.imp bef_asymm
theorem strict_nodup {bs : List Blk} (h : bs.Pairwise fun x y => befB x y = true) : bs.Nodup :=
  h.imp fun {x y} hxy e => by subst e; rw [bef_irrefl] at hxy; cases hxy
end Go.Proofs.Ytahgialnhomefaa

namespace Go.Proofs.Ytahgialnhomefaa
/-- The pairs of a list of blocks. -/
def prs (bs : List Blk) : List (Int × Int) := bs.flatMap pairsL
/-- The same pairs. -/
def samePr (bs cs : List Blk) : Bool := (prs bs).all (fun p => decide (p ∈ prs cs)) && (prs cs).all (fun p => decide (p ∈ prs bs))
/-- No block is in both. -/
def dsj (bs cs : List Blk) : Bool := bs.all fun x => !decide (x ∈ cs)
def trdB (v : Int) (bo bi : List Blk) : Bool := isSysImpl v bo && isSysImpl v bi && (samePr bo bi && dsj bo bi)
theorem samePr_iff {bs cs : List Blk} : samePr bs cs = true ↔ ∀ p, p ∈ prs bs ↔ p ∈ prs cs := by
  simp only [samePr, Bool.and_eq_true, List.all_eq_true, decide_eq_true_eq]
  exact ⟨fun h p => ⟨h.1 p, h.2 p⟩, fun h => ⟨fun p => (h p).1, fun p => (h p).2⟩⟩
theorem dsj_iff {bs cs : List Blk} : dsj bs cs = true ↔ ∀ x ∈ bs, x ∉ cs := by simp [dsj]
theorem dsj_symm (bs cs : List Blk) : dsj bs cs = dsj cs bs := by
  rw [Bool.eq_iff_iff, dsj_iff, dsj_iff]
  exact ⟨fun h x hx hy => h x hy hx, fun h x hx hy => h x hy hx⟩
theorem samePr_symm (bs cs : List Blk) : samePr bs cs = samePr cs bs := by
  rw [Bool.eq_iff_iff, samePr_iff, samePr_iff]
  exact ⟨fun h p => (h p).symm, fun h p => (h p).symm⟩
theorem trdB_symm (v : Int) (bo bi : List Blk) : trdB v bo bi = trdB v bi bo := by
  unfold trdB
  rw [samePr_symm, dsj_symm, Bool.and_comm (isSysImpl v bo)]
theorem prs_length (bs : List Blk) : (prs bs).length = 3 * bs.length := by
  induction bs with
  | nil => rfl
  | cons x r ih =>
    simp only [prs, List.flatMap_cons, List.length_append, List.length_cons] at ih ⊢
    rw [ih]
    simp [pairsL]; omega
theorem share_nodup {v : Int} (hv : v ≤ 15) : ∀ (bs : List Blk) (seen : List (Int × Int)), (∀ x ∈ bs, goodB v x = true) → seen.Nodup → shareGo seen bs = false → (seen ++ prs bs).Nodup
  | [], seen, _, hn, _ => by simpa [prs] using hn
  | x :: r, seen, hb, hn, h => by
    unfold shareGo at h
    split at h
    · rename_i hf
      rw [freeB_iff] at hf
      obtain ⟨g1, _⟩ := good_pairs hv (hb x (by simp))
      have := share_nodup hv r (seen ++ pairsL x) (fun y hy => hb y (by simp [hy])) (List.nodup_append.2 ⟨hn, g1, fun p hp q hq e => hf q hq (e ▸ hp)⟩) h
      simpa [prs, List.append_assoc] using this
    · cases h
theorem sys_parts {v : Int} {bs : List Blk} (h : isSysImpl v bs = true) : 3 ≤ v ∧ v ≤ 15 ∧ (∀ x ∈ bs, goodB v x = true) ∧ shareGo [] bs = false := by
  simp only [isSysImpl, Bool.and_eq_true, decide_eq_true_eq, Bool.not_eq_true'] at h
  exact ⟨h.1.1.1, h.1.1.2, order_good h.1.2, h.2⟩
theorem prs_nodup {v : Int} {bs : List Blk} (h : isSysImpl v bs = true) : (prs bs).Nodup := by
  obtain ⟨_, h2, h3, h4⟩ := sys_parts h
  simpa using share_nodup h2 bs [] h3 List.nodup_nil h4
theorem sub_back {α : Type} [DecidableEq α] {l m : List α} (hn : l.Nodup) (hs : ∀ x ∈ l, x ∈ m) (hl : m.length ≤ l.length) : ∀ x ∈ m, x ∈ l := by
  intro x hx
  apply Classical.byContradiction
  intro hnot
  have h := nodup_length l (m.erase x) hn (fun y hy => by
    have hne : y ≠ x := fun e => hnot (e ▸ hy)
    exact (List.mem_erase_of_ne hne).2 (hs y hy))
  rw [List.length_erase_of_mem hx] at h
  have : 0 < m.length := List.length_pos_of_mem hx
  omega
/-- Of two systems: as many pairs, and those of the first in the second, say the same. -/
theorem samePr_of {v u : Int} {bs cs : List Blk} (h1 : isSysImpl v bs = true) (h2 : isSysImpl u cs = true) : samePr bs cs = (decide ((prs bs).length = (prs cs).length) && (prs bs).all fun p => decide (p ∈ prs cs)) := by
  have n1 := prs_nodup h1
  have n2 := prs_nodup h2
  rw [Bool.eq_iff_iff, samePr_iff]
  simp only [Bool.and_eq_true, List.all_eq_true, decide_eq_true_eq]
  constructor
  · intro h
    exact ⟨Nat.le_antisymm (nodup_length _ _ n1 fun x hx => (h x).1 hx) (nodup_length _ _ n2 fun x hx => (h x).2 hx), fun x hx => (h x).1 hx⟩
  · rintro ⟨h, hs⟩ p
    exact ⟨hs p, sub_back n1 hs (by omega) p⟩
/-- The blocks that are not in the others. -/
def lessL (bs cs : List Blk) : List Blk := bs.filter fun x => !decide (x ∈ cs)
theorem lessL_length (bs cs : List Blk) : (lessL bs cs).length ≤ bs.length := List.length_filter_le _ _
theorem lessL_mem {bs cs : List Blk} {x : Blk} : x ∈ lessL bs cs ↔ x ∈ bs ∧ x ∉ cs := by simp [lessL]
theorem lessL_strict {bs cs : List Blk} (h : bs.Pairwise fun x y => befB x y = true) : (lessL bs cs).Pairwise fun x y => befB x y = true := h.filter _
theorem sortB_strict {bs : List Blk} (h : bs.Pairwise fun x y => befB x y = true) : sortB bs = bs := sortB_eq (strict_srt h) (List.Perm.refl _)
end Go.Proofs.Ytahgialnhomefaa

namespace Go.Proofs.Ytahgialnhomefaa
section
variable {X : Type} (f g : X → X) (S : X → Prop)
/-- The k-th point of the walk: by f first, then by g, and so on. -/
def stepN (p : X) : Nat → X
  | 0 => p
  | k + 1 => if k % 2 = 0 then f (stepN p k) else g (stepN p k)
/-- Two involutions of a set that have no fixed point and nowhere agree. -/
structure Two : Prop where
  fin : ∀ x, S x → S (f x)
  gin : ∀ x, S x → S (g x)
  ff : ∀ x, S x → f (f x) = x
  gg : ∀ x, S x → g (g x) = x
  fne : ∀ x, S x → f x ≠ x
  gne : ∀ x, S x → g x ≠ x
  fg : ∀ x, S x → f x ≠ g x
variable {f g S}
theorem Two.mem (h : Two f g S) {p : X} (hp : S p) : ∀ k, S (stepN f g p k)
  | 0 => hp
  | k + 1 => by
    unfold stepN
    split
    · exact h.fin _ (h.mem hp k)
    · exact h.gin _ (h.mem hp k)
/-- A step back. -/
theorem Two.back (h : Two f g S) {p : X} (hp : S p) (k : Nat) : (if k % 2 = 0 then f (stepN f g p (k + 1)) else g (stepN f g p (k + 1))) = stepN f g p k := by
  have hk := h.mem hp k
  show (if k % 2 = 0 then f (if k % 2 = 0 then f (stepN f g p k) else g (stepN f g p k)) else g (if k % 2 = 0 then f (stepN f g p k) else g (stepN f g p k))) = stepN f g p k
  split
  · exact h.ff _ hk
  · exact h.gg _ hk
/-- Until k no point comes twice. -/
def Fresh (f g : X → X) (p : X) (k : Nat) : Prop := ∀ i j, i < j → j < k → stepN f g p i ≠ stepN f g p j
/-- The first point that comes again is the first one, behind a step by g. -/
theorem Two.first (h : Two f g S) {p : X} (hp : S p) {j i : Nat} (hf : Fresh f g p j) (hij : i < j) (he : stepN f g p j = stepN f g p i) : i = 0 ∧ j % 2 = 0 := by
  obtain ⟨m, rfl⟩ : ∃ m, j = m + 1 := ⟨j - 1, by omega⟩
  have hb := h.back hp m
  rw [he] at hb
  -- the neighbours of the i-th point
  by_cases hi : i = 0
  · subst hi
    refine ⟨rfl, ?_⟩
    apply Classical.byContradiction
    intro hodd
    rw [if_pos (by omega)] at hb
    -- f p is the first point, and the m-th
    have h1 : stepN f g p 1 = f (stepN f g p 0) := rfl
    rw [← h1] at hb
    rcases Nat.eq_zero_or_pos m with rfl | hm
    · exact h.fne _ (h.mem hp 0) (hb : f (stepN f g p 0) = stepN f g p 0)
    · rcases Nat.lt_or_ge 1 m with h2 | h2
      · exact hf 1 m h2 (by omega) hb
      · omega
  · exfalso
    obtain ⟨l, rfl⟩ : ∃ l, i = l + 1 := ⟨i - 1, by omega⟩
    have hback := h.back hp l
    have hnext : stepN f g p (l + 1 + 1) = if (l + 1) % 2 = 0 then f (stepN f g p (l + 1)) else g (stepN f g p (l + 1)) := rfl
    by_cases hpar : l % 2 = m % 2
    · -- the same kind of step: the m-th is the l-th
      have : stepN f g p m = stepN f g p l := by
        rw [← hb, ← hback]
        simp only [hpar]
      exact hf l m (by omega) (by omega) this.symm
    · have hq : stepN f g p m = stepN f g p (l + 1 + 1) := by
        rw [← hb, hnext]
        by_cases e : m % 2 = 0
        · rw [if_pos e, if_pos (by omega)]
        · rw [if_neg e, if_neg (by omega)]
      rcases Nat.lt_or_ge (l + 1 + 1) m with h2 | h2
      · exact hf (l + 1 + 1) m h2 (by omega) hq.symm
      · rcases Nat.eq_or_lt_of_le h2 with h3 | h3
        · -- m = l + 2: the kinds are the same
          omega
        · -- m = l + 1: a fixed point
          have hm : m = l + 1 := by omega
          subst hm
          have hx := h.mem hp (l + 1)
          rw [hnext] at hq
          split at hq
          · exact h.fne _ hx hq.symm
          · exact h.gne _ hx hq.symm
/-- There is a first point that comes again: within as many steps as the set has points. -/
theorem fresh_len {p : X} {l : List X} (hl : ∀ k, stepN f g p k ∈ l) {k : Nat} (hf : Fresh f g p k) : k ≤ l.length := by
  have hn : ((List.range k).map (stepN f g p)).Nodup := by
    rw [List.Nodup, List.pairwise_map]
    exact List.pairwise_lt_range.imp_of_mem fun {a b} _ hb hab e => hf a b hab (List.mem_range.1 hb) e
  have := List.Nodup.length_le_of_subset hn (l₂ := l) (fun x hx => by obtain ⟨i, _, rfl⟩ := List.mem_map.1 hx; exact hl i)
  simpa using this
theorem fresh_zero (p : X) : Fresh f g p 0 := fun _ _ _ h => absurd h (Nat.not_lt_zero _)
theorem fresh_succ {p : X} {k : Nat} (hf : Fresh f g p k) (h : ∀ i, i < k → stepN f g p k ≠ stepN f g p i) : Fresh f g p (k + 1) := fun i j hij hj => by
  rcases Nat.lt_or_ge j k with h1 | h1
  · exact hf i j hij h1
  · obtain rfl : j = k := by omega
    exact fun e => h i hij e.symm
/-- The period. -/
theorem Two.period (h : Two f g S) {p : X} (hp : S p) {l : List X} (hl : ∀ x, S x → x ∈ l) : ∃ N, 0 < N ∧ N % 2 = 0 ∧ N ≤ l.length ∧ Fresh f g p N ∧ stepN f g p N = p := by
  have hs : ∀ n k, l.length + 1 - k ≤ n → Fresh f g p k → 0 < k → ∃ N, 0 < N ∧ N % 2 = 0 ∧ N ≤ l.length ∧ Fresh f g p N ∧ stepN f g p N = p := by
    intro n
    induction n with
    | zero =>
      intro k hk hf _
      have := fresh_len (l := l) (fun k => hl _ (h.mem hp k)) hf
      omega
    | succ n ih =>
      intro k hk hf h0
      by_cases hc : ∃ i, i < k ∧ stepN f g p k = stepN f g p i
      · obtain ⟨i, hi, he⟩ := hc
        obtain ⟨rfl, h2⟩ := h.first hp hf hi he
        exact ⟨k, h0, h2, fresh_len (l := l) (fun k => hl _ (h.mem hp k)) hf, hf, he⟩
      · refine ih (k + 1) (by omega) (fresh_succ hf fun i hi e => hc ⟨i, hi, e⟩) (by omega)
  exact hs _ 1 (Nat.le_refl _) (fun i j hij hj => by omega) (by decide)
/-- The points of a cycle are closed under both. -/
theorem Two.closed (h : Two f g S) {p : X} (hp : S p) {N : Nat} (h0 : 0 < N) (h2 : N % 2 = 0) (he : stepN f g p N = p) {k : Nat} (hk : k < N) : (∃ i, i < N ∧ f (stepN f g p k) = stepN f g p i) ∧ ∃ i, i < N ∧ g (stepN f g p k) = stepN f g p i := by
  by_cases hk2 : k % 2 = 0
  · refine ⟨⟨k + 1, by omega, by show _ = (if k % 2 = 0 then _ else _); rw [if_pos hk2]⟩, ?_⟩
    rcases Nat.eq_zero_or_pos k with rfl | h1
    · refine ⟨N - 1, by omega, ?_⟩
      have hb := h.back hp (N - 1)
      rw [show N - 1 + 1 = N by omega, he, if_neg (by omega)] at hb
      exact hb
    · refine ⟨k - 1, by omega, ?_⟩
      have hb := h.back hp (k - 1)
      rw [show k - 1 + 1 = k by omega, if_neg (by omega)] at hb
      exact hb
  · constructor
    · refine ⟨k - 1, by omega, ?_⟩
      have hb := h.back hp (k - 1)
      rw [show k - 1 + 1 = k by omega, if_pos (by omega)] at hb
      exact hb
    · rcases Nat.lt_or_ge (k + 1) N with h3 | h3
      · exact ⟨k + 1, h3, by show _ = (if k % 2 = 0 then _ else _); rw [if_neg hk2]⟩
      · have hN : k + 1 = N := by omega
        have hst : stepN f g p (k + 1) = g (stepN f g p k) := by
          show (if k % 2 = 0 then _ else _) = _
          rw [if_neg hk2]
        refine ⟨0, h0, ?_⟩
        rw [← hst, hN, he]
        rfl
end
end Go.Proofs.Ytahgialnhomefaa

namespace Go.Proofs.Ytahgialnhomefaa
open Go.RowKit Go.Maps
end Go.Proofs.Ytahgialnhomefaa

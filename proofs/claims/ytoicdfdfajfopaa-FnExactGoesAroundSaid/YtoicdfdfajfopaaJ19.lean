
/- Renumberings that go around: the model's test and the program's. The model's first automorphism that goes around. The program's first automorphism that goes around. How the laws' arguments are read. How the laws' other arguments are read: slices of integers, slices of blocks, a block, rows. What a law over one system whose result is a system knows of the memory between two of its steps. The law FnExactGoesAround returns true. The dump's head word by word, cheaply: what every row asks of it. -/
import Derived.Test.YtoicdfdfajfopaaJ18
import Derived.Test.YtoicdfdfajfopaaRows
import Derived.ProofKit
import Derived.OpenShut
import Derived.Deep.Slices
import Derived.Lib.SmallJoins
import Derived.ChangeOld
import Derived.Deep.RegionWith
import Derived.Deep.DeepCutAuto
namespace Go.Proofs.Ytoicdfdfajfopaa
open Go.RowKit Go.Maps
def fZ (z : List Int) (a : Nat) : Nat := (z[a]?.getD 0).toNat
/-- Whether a list of images goes around. -/
def arZ (z : List Int) : Bool := aroM z.length (fZ z)
def arL (l : List Nat) : Bool := arZ (castN l)
theorem fZ_cast (l : List Nat) (a : Nat) : fZ (castN l) a = l[a]?.getD 0 := by
  unfold fZ castN
  rw [List.getElem?_map]
  cases l[a]? <;> rfl
theorem castN_len' (l : List Nat) : (castN l).length = l.length := by simp [castN]
theorem aroM_first {n : Nat} {f : Nat → Nat} (hn : 1 ≤ n) {k : Nat} (h1 : 1 ≤ k) (hk : k < n) (h0 : itr f k = 0) : aroM n f = false := by
  unfold aroM
  rw [Bool.and_eq_false_iff]
  left
  rw [List.all_eq_false]
  exact ⟨k - 1, by rw [List.mem_range]; omega, by rw [show k - 1 + 1 = k by omega, h0]; simp⟩
theorem aroM_last {n : Nat} {f : Nat → Nat} (hn : 1 ≤ n) (h : ∀ k, 1 ≤ k → k < n → itr f k ≠ 0) : aroM n f = decide (itr f n = 0) := by
  unfold aroM
  rw [show ((List.range (n - 1)).all fun k => decide (itr f (k + 1) ≠ 0)) = true from by
    rw [List.all_eq_true]
    intro k hk
    rw [List.mem_range] at hk
    exact decide_eq_true (h (k + 1) (by omega) (by omega)), Bool.true_and]
set_option maxRecDepth 100000 in
set_option maxHeartbeats 2000000 in
theorem l06Around_any (n : Nat) (hn1 : 1 ≤ n) (hn : n ≤ 15) (l : List Nat) (s : Value) (W : World) (hl : l.length = n) (hlt : ∀ i ∈ l, i < n) (h : IA W s (castN l)) : Calls Try.prog 118 #[s] W (RV (.bool (arL l)) W) := by
  obtain ⟨b, off, cap, rfl, hb, hI⟩ := h
  rw [castN_len', hl]
  have hc : ∀ a, a < n → W.cell? ⟨b, off + a, none⟩ = some (.int .i64 (fZ (castN l) a : Int)) ∧ fZ (castN l) a < n := fun a ha => by
    have h1 := hI a (by rw [castN_len', hl]; exact ha)
    have h2 : fZ (castN l) a < n := by
      rw [fZ_cast]
      exact hlt _ (getD_mem (by omega))
    refine ⟨?_, h2⟩
    rw [h1]
    congr 2
    unfold fZ castN
    rw [List.getElem?_map, List.getElem?_eq_getElem (by omega)]
    simp
  have HC := Lib.hid hc
  obtain ⟨f, hf⟩ : ∃ f, f = fZ (castN l) := ⟨_, rfl⟩
  rw [← hf] at HC
  obtain ⟨β, hβ⟩ : ∃ β, β = arL l := ⟨_, rfl⟩
  rw [← hβ]
  have HB := Lib.hid (show β = aroM n f by rw [hβ, hf, arL, arZ, castN_len', hl])
  have HF := Lib.hid (show ∀ k, itr f k < n from itr_lt hn1 (fun a ha => (HC.out a ha).2))
  have z0 := (HC.out 0 hn1).1
  rw [Nat.add_zero] at z0
  have hf0 : f 0 = itr f 1 := rfl
  rw [hf0] at z0
  clear hI hc hlt hl hβ hf hf0 hb
  go_enter Try.func118, Try.ntmps118
  go_wp2
  go_loop [3, 4] (fun at_ i => ∃ k : Nat, 1 ≤ k ∧ k ≤ n ∧ i = .int .i64 k ∧ at_ = .int .i64 (itr f k : Int) ∧ Hid (∀ j, 1 ≤ j → j < k → itr f j ≠ 0)) (fun at_ i => n - (intOf i).toNat)
  case atStart => exact ⟨1, Nat.le_refl _, hn1, rfl, rfl, Lib.hid fun j h1 h2 => by omega⟩
  case round =>
    obtain ⟨k, hk1, hkn, rfl, rfl, HJ⟩ := hrel
    have hil := HF.out k
    by_cases hlt : k < n
    · by_cases h0 : itr f k = 0
      · have hb0 : β = false := by rw [HB.out]; exact aroM_first hn1 hk1 hlt h0
        subst hb0
        rw [h0]
        go_wp2
        go_ret
        exact RV_of rfl (Below.refl _ _)
      · have hz : ((itr f k : Int) == 0) = false := by rw [beq_eq_false_iff_ne]; omega
        have z1 := (HC.out (itr f k) hil).1
        rw [show f (itr f k) = itr f (k + 1) from rfl] at z1
        go_wp2
        go_round
        case rel => exact ⟨k + 1, by omega, hlt, by go_num, rfl, Lib.hid fun j h1 h2 => by
          by_cases e : j = k
          · subst e
            exact h0
          · exact HJ.out j h1 (by omega)⟩
        case measure => simp [intOf]; omega
    · obtain rfl : k = n := by omega
      have hb0 : β = decide (itr f k = 0) := by rw [HB.out]; exact aroM_last hn1 HJ.out
      have hz : ((itr f k : Int) == 0) = β := by
        rw [hb0]
        by_cases e : itr f k = 0
        · simp [e]
        · rw [decide_eq_false e, beq_eq_false_iff_ne]
          omega
      go_wp2
      go_ret
      exact RV_of rfl (Below.refl _ _)
set_option maxRecDepth 100000 in
set_option maxHeartbeats 2000000 in
theorem goesAround_any (n : Nat) (hn1 : 1 ≤ n) (hn : n ≤ 15) (f : Nat → Nat) (hl : ∀ a, a < n → f a < n) (hi : ∀ a b, a < n → b < n → f a = f b → a = b) (g cap : Nat) (z : List Int) (W : World) (hz : z.length = n) (hzf : ∀ a, a < n → z[a]?.getD 0 = (f a : Int)) (h : Ints W g 0 z) : Calls Try.prog 80 #[.slice (some ⟨g, 0, none⟩) n cap] W (RS (.bool (arZ z)) W) := by
  have HC := Lib.hid fun (a : Nat) (ha : a < n) => (show W.cell? ⟨g, a, none⟩ = some (.int .i64 (f a : Int)) from by
    have := h a (by omega)
    rw [Nat.zero_add, hzf a ha] at this
    exact this)
  obtain ⟨m, m1, m2, m3, m4⟩ := itr_first hn1 hl hi
  have hfz : ∀ k, itr (fZ z) k = itr f k := fun k => by
    induction k with
    | zero => rfl
    | succ k ih =>
      show fZ z (itr (fZ z) k) = f (itr f k)
      rw [ih]
      unfold fZ
      rw [hzf _ (itr_lt hn1 hl k)]
      exact Int.toNat_natCast _
  obtain ⟨β, hβ⟩ : ∃ β, β = arZ z := ⟨_, rfl⟩
  rw [← hβ]
  have hb0 : β = decide (m = n) := by
    rw [hβ, arZ, hz]
    exact aro_iff m1 m2 ((hfz m).trans m3) (fun k a b => by rw [hfz]; exact m4 k a b)
  have HF := Lib.hid (show ∀ k, itr f k < n from itr_lt hn1 hl)
  have HM := Lib.hid m4
  have z0 := HC.out 0 hn1
  rw [show f 0 = itr f 1 from rfl] at z0
  clear h hl hi hzf hfz hβ m4 hz
  go_enter Try.func80, Try.ntmps80
  go_wp2
  go_loop [3, 4] (fun c i => ∃ k : Nat, 1 ≤ k ∧ k ≤ m ∧ i = .int .i64 (itr f k : Int) ∧ c = .int .i64 (k : Int)) (fun c i => m - (intOf c).toNat)
  case atStart => exact ⟨1, Nat.le_refl _, m1, rfl, rfl⟩
  case round =>
    obtain ⟨k, hk1, hkm, rfl, rfl⟩ := hrel
    have hil := HF.out k
    by_cases hlt : k < m
    · have h0 := HM.out k hk1 hlt
      have hz : ((itr f k : Int) != 0) = true := by rw [bne_iff_ne]; omega
      have z1 := HC.out (itr f k) hil
      rw [show f (itr f k) = itr f (k + 1) from rfl] at z1
      go_wp2
      go_round
      case rel => exact ⟨k + 1, by omega, hlt, by first | rfl | go_num, by go_num⟩
      case measure => simp [intOf]; omega
    · obtain rfl : k = m := by omega
      rw [m3]
      have hd : ((k : Int) == (n : Int)) = β := by
        rw [hb0]
        by_cases e : k = n
        · simp [e]
        · rw [decide_eq_false e, beq_eq_false_iff_ne]
          omega
      go_wp2
      go_ret
      exact RS_of rfl
end Go.Proofs.Ytoicdfdfajfopaa

namespace Go.Proofs.Ytoicdfdfajfopaa
open Go.RowKit Go.Maps
/-- All automorphisms that go around. -/
def garL (n : Nat) (bs : List Blk) : List (List Int) := (autL n bs).filter arZ
def firI : List (List Int) → List Int × Int
  | [] => ([], 4)
  | z :: _ => (z, 0)
def gaF (v : Int) (bs : List Blk) : List Int × Int := if fullC v bs = 0 then firI (garL v.toNat bs) else ([], fullC v bs)
theorem goS_around {n : Nat} {bs : List Blk} : (goS n (T3 bs) (T3 bs) arL 1 n [] []).map castN = (garL n bs).take 1 := by
  rw [goS_one, garL, autL, List.filter_map, List.map_take]
  rfl
theorem gaF_len (v : Int) (bs : List Blk) : (gaF v bs).1.length ≤ 15 := by
  unfold gaF
  split
  · rename_i hc
    obtain ⟨hi, hf⟩ := fullC_ok hc
    obtain ⟨n, rfl⟩ : ∃ n : Nat, v = (n : Int) := ⟨v.toNat, by have := (sys_size hi).1; omega⟩
    have hn15 := (sys_size hi).2.1
    rw [Int.toNat_natCast]
    have hl : ∀ z ∈ garL n bs, z.length = n := fun z hz => isoL_rowlen (thdS hi hf) (thdS hi hf) (List.mem_filter.1 hz).1
    cases hL : garL n bs with
    | nil => simp [firI]
    | cons z L =>
      have := hl z (by rw [hL]; simp)
      show z.length ≤ 15
      omega
  · simp
set_option maxRecDepth 100000 in
set_option maxHeartbeats 4000000 in
theorem specGoes_main (n : Nat) (s : Value) (bs : List Blk) (w : World) (h : SB w s bs) (hi : isSysImpl (n : Int) bs = true) (hf : fullB (n : Int) bs = true) : Calls Try.prog 44 #[.agg #[.int .i64 (n : Int), s]] w (RJ (firI (garL n bs)) w) := by
  have hn3 := (sys_size hi).1
  have hn15 := (sys_size hi).2.1
  have hfc := fun (B : Nat) W (hb : Below w.heap.size w W) c0 c1 => l06Code_one B (n : Int) s bs W (h.below hb (Nat.le_refl _)) c0 c1
  rw [show fullC (n : Int) bs = 0 by simp [fullC, hi, hf]] at hfc
  have hbt := fun W (hb : Below w.heap.size w W) => l06Between_any n 1 s s bs bs true arL W (h.below hb (Nat.le_refl _)) (h.below hb (Nat.le_refl _)) hi hf hi hf (by omega) (by omega) (.inr ⟨rfl, fun l s W hl hlt hI => l06Around_any n (by omega) (by omega) l s W hl hlt hI⟩)
  have hgl : (goS n (T3 bs) (T3 bs) arL 1 n [] []).length = ((garL n bs).take 1).length := by rw [← goS_around, List.length_map]
  rw [goS_around, hgl] at hbt
  have HBT := Lib.hid hbt
  have hrl : ∀ z ∈ garL n bs, z.length = n := fun z hz => isoL_rowlen (thdS hi hf) (thdS hi hf) (List.mem_filter.1 hz).1
  obtain ⟨a0, c0, rfl⟩ := h.slice
  have hb0 : Below w.heap.size w ((w.alloc (.cells #[.int .i64 (n : Int), .slice a0 bs.length c0] 31)).alloc (.cells #[.int .i64 (n : Int), .slice a0 bs.length c0] 31)) := ((Below.refl _ _).alloc (Nat.le_refl _) _).alloc (by simp) _
  have HFI := Lib.hid (hfc (w.heap.size + 1) _ hb0 (by simp [go_sem]) (by simp [go_sem]))
  clear hfc h hi hf hbt hgl
  generalize garL n bs = L at HBT hrl
  cases L with
  | nil =>
    show Calls _ _ _ _ (RJ ([], 4) w)
    clear hrl
    go_enter Try.func44, Try.ntmps44
    go_wp2_with fail
    refine HFI.out.mono ?_
    rintro e w2 ⟨rfl, hb2⟩
    have q0 := (hb2.cell (p := ⟨w.heap.size, 0, none⟩) (by simp <;> omega)).trans (by simp [go_sem] : _ = some (Value.int .i64 (n : Int)))
    have q1 := (hb2.cell (p := ⟨w.heap.size, 1, none⟩) (by simp <;> omega)).trans (by simp [go_sem] : _ = some (Value.slice a0 bs.length c0))
    have hB2 := hb0.trans (hb2.mono (by simp <;> omega))
    clear hb2 HFI hb0
    go_wp2_with fail
    refine (HBT.out _ hB2).mono ?_
    rintro e w3 ⟨u, us, rfl, hT, hu, hb3⟩
    obtain ⟨a5, c5, rfl⟩ := hu
    have hB3 := hB2.trans (hb3.mono hB2.size)
    clear hT hb3 HBT
    go_wp2
    go_ret2
    exact ⟨_, rfl, OwnJ.nil _ _, hB3⟩
  | cons z L =>
    show Calls _ _ _ _ (RJ (z, 0) w)
    have hzl := hrl z (by simp)
    have HZ := Lib.hid hzl
    clear hrl hzl
    go_enter Try.func44, Try.ntmps44
    go_wp2_with fail
    refine HFI.out.mono ?_
    rintro e w2 ⟨rfl, hb2⟩
    have q0 := (hb2.cell (p := ⟨w.heap.size, 0, none⟩) (by simp <;> omega)).trans (by simp [go_sem] : _ = some (Value.int .i64 (n : Int)))
    have q1 := (hb2.cell (p := ⟨w.heap.size, 1, none⟩) (by simp <;> omega)).trans (by simp [go_sem] : _ = some (Value.slice a0 bs.length c0))
    have hB2 := hb0.trans (hb2.mono (by simp <;> omega))
    clear hb2 HFI hb0
    go_wp2_with fail
    refine (HBT.out _ hB2).mono ?_
    rintro e w3 ⟨u, us, rfl, hT, -, hb3⟩
    have hB3 := hB2.trans (hb3.mono hB2.size)
    have hb2z := hB2.size
    obtain ⟨G, c, g, cap, rfl, e2, e3, e4, e5, e6, e7⟩ := hT.at_ (k := 0) (by simp) (by simp [HZ.out]; omega) (by simp [HZ.out]; omega)
    have ho := hT.row 0 _ e5
    simp only [List.take_succ_cons, List.take_zero, List.getElem?_cons_zero, Option.getD_some, List.length_cons, List.length_nil] at e3 e5 ho ⊢
    have HOZ := Lib.hid (ho.baseP (b' := w.heap.size) (by omega))
    clear hT hb3 HBT ho e5 e6 e4
    go_wp2
    go_ret2
    exact ⟨_, rfl, HOZ.out, hB3⟩
set_option maxRecDepth 100000 in
theorem specGoes_any (v : Int) (s : Value) (bs : List Blk) (w : World) (h : SB w s bs) : Calls Try.prog 44 #[.agg #[.int .i64 v, s]] w (RJ (gaF v bs) w) := by
  by_cases hc : fullC v bs = 0
  · obtain ⟨hi, hf⟩ := fullC_ok hc
    obtain ⟨n, rfl⟩ : ∃ n : Nat, v = (n : Int) := ⟨v.toNat, by have := (sys_size hi).1; omega⟩
    have := specGoes_main n s bs w h hi hf
    unfold gaF
    rw [if_pos hc, Int.toNat_natCast]
    exact this
  · have HV := Lib.hid (show gaF v bs = ([], fullC v bs) by simp [gaF, hc])
    rw [HV.out]
    have HFC := Lib.hid fun (B : Nat) W (hb : Below w.heap.size w W) c0 c1 => l06Code_one B v s bs W (h.below hb (Nat.le_refl _)) c0 c1
    have hb0 : Below w.heap.size w ((w.alloc (.cells #[.int .i64 v, s] 31)).alloc (.cells #[.int .i64 v, s] 31)) := ((Below.refl _ _).alloc (Nat.le_refl _) _).alloc (by simp) _
    obtain ⟨k, hk⟩ : ∃ k, k = fullC v bs := ⟨_, rfl⟩
    rw [← hk] at HFC hc ⊢
    have hk0 : (k == 0) = false := by simpa using hc
    have hk1 : (k != 0) = true := by simpa using hc
    obtain ⟨a0, c0, rfl⟩ := h.slice
    clear h hk
    have HFI := Lib.hid (HFC.out (w.heap.size + 1) _ hb0 (by simp [go_sem]) (by simp [go_sem]))
    go_enter Try.func44, Try.ntmps44
    go_wp2_with fail
    refine HFI.out.mono ?_
    rintro e w1 ⟨rfl, hb1⟩
    have hbw := hb0.trans (hb1.mono (by simp <;> omega))
    clear hb1 HFI
    go_wp2
    go_ret2
    exact ⟨_, rfl, OwnJ.nil _ _, hbw⟩
end Go.Proofs.Ytoicdfdfajfopaa

namespace Go.Proofs.Ytoicdfdfajfopaa
open Go.RowKit Go.Maps Go.Shelf
attribute [local go_sem] Oper.semAt_some
set_option maxRecDepth 100000 in
set_option maxHeartbeats 4000000 in
theorem Goes_main (n : Nat) (s : Value) (bs : List Blk) (w : World) (h : SB w s bs) (hi : isSysImpl (n : Int) bs = true) (hf : fullB (n : Int) bs = true) : Calls Try.prog 45 #[.agg #[.int .i64 (n : Int), s]] w (RJ (firI (garL n bs)) w) := by
  have h3 := (sys_size hi).1
  have h15 := (sys_size hi).2.1
  have HA := Lib.hid fun W (hb : Below w.heap.size w W) => automorphisms_any n s bs W (h.below hb (Nat.le_refl _)) hi hf
  have hc0 : fullC (n : Int) bs = 0 := by simp [fullC, hi, hf]
  have hfc := fun W hb B c0 c1 => fullCode_one B (n : Int) s bs W (h.below (w' := W) hb (Nat.le_refl _)) c0 c1
  rw [hc0] at hfc
  have HT := Lib.hid (thdS hi hf)
  obtain ⟨X, hX⟩ : ∃ X, X = renL n (T3 bs) (T3 bs) := ⟨_, rfl⟩
  have hXm : garL n bs = (X.map encM).filter arZ := by rw [hX, renL_aut hi hf, garL]
  obtain ⟨rr, hrr⟩ : ∃ rr : List Int × Int, rr = firI (garL n bs) := ⟨_, rfl⟩
  rw [← hrr]
  rw [hXm] at hrr
  have HRR := Lib.hid hrr
  have HX := Lib.hid hX
  obtain ⟨a0, c0, rfl⟩ := h.slice
  obtain ⟨W1, hW1⟩ : ∃ W1, W1 = (((w.alloc (.cells #[.int .i64 (n : Int), .slice a0 bs.length c0] 31)).alloc (.cells #[.slice none 0 0] 25)).alloc (.cells #[.int .i64 0] 2)).alloc (.cells #[.int .i64 (n : Int), .slice a0 bs.length c0] 31) := ⟨_, rfl⟩
  have hB1 : Below w.heap.size w W1 := by rw [hW1]; exact ((((Below.refl _ _).alloc (Nat.le_refl _) _).alloc (by simp) _).alloc (by simp <;> omega) _).alloc (by simp <;> omega) _
  have q0 : W1.cell? ⟨w.heap.size, 0, none⟩ = some (.int .i64 n) := by rw [hW1]; simp [go_sem]
  have q1 : W1.cell? ⟨w.heap.size, 1, none⟩ = some (.slice a0 bs.length c0) := by rw [hW1]; simp [go_sem]
  have b4 : Boxed W1 (w.heap.size + 1) 25 (.slice none 0 0) := by
    have := ((Boxed.new (w.alloc (.cells #[.int .i64 (n : Int), .slice a0 bs.length c0] 31)) 25 (.slice none 0 0)).alloc (.cells #[.int .i64 0] 2)).alloc (.cells #[.int .i64 (n : Int), .slice a0 bs.length c0] 31)
    simp only [World.size_alloc] at this
    rw [hW1]
    exact this
  have b5 : Boxed W1 (w.heap.size + 1 + 1) 2 (.int .i64 0) := by
    have := (Boxed.new ((w.alloc (.cells #[.int .i64 (n : Int), .slice a0 bs.length c0] 31)).alloc (.cells #[.slice none 0 0] 25)) 2 (.int .i64 0)).alloc (.cells #[.int .i64 (n : Int), .slice a0 bs.length c0] 31)
    simp only [World.size_alloc] at this
    rw [hW1]
    exact this
  have hz1 : W1.heap.size = w.heap.size + 1 + 1 + 1 + 1 := by rw [hW1]; simp
  have HCL := Lib.hid (hfc W1 hB1 (w.heap.size + 1 + 1 + 1) (by rw [hW1]; simp [go_sem]) (by rw [hW1]; simp [go_sem]))
  clear hfc hc0 h hi hf hrr hX hXm
  have hro : Fence.wide.round = none := rfl
  refine (callsIn_wide (n := 9)).1 ?_
  refine callsIn_of_wp_marks Try.func45 rfl trivial ?_ hro
  simp only [Try.ntmps45, List.size_toArray, List.length_cons, List.length_nil, Nat.reduceAdd, Nat.reduceSub, Array.replicate_succ, Array.replicate_zero, List.push_toArray, List.append_toArray, List.nil_append, List.cons_append]
  gi_wp2_with (first | fail)
  rw [← hW1]
  refine ⟨trivial, (callsIn_wide.2 HCL.out).mono ?_⟩
  rintro e w2 ⟨rfl, hb2⟩
  have hB2 := hB1.trans (hb2.mono hB1.size)
  have q0 := (hb2.cell (p := ⟨w.heap.size, 0, none⟩) (show w.heap.size < W1.heap.size by omega)).trans q0
  have q1 := (hb2.cell (p := ⟨w.heap.size, 1, none⟩) (show w.heap.size < W1.heap.size by omega)).trans q1
  have b4 : Boxed w2 _ _ _ := (hb2.block (w.heap.size + 1) (by omega)).trans b4
  have b5 : Boxed w2 _ _ _ := (hb2.block (w.heap.size + 1 + 1) (by omega)).trans b5
  have hz2 := hb2.size
  clear hb2 hW1 hB1 HCL
  obtain ⟨Br, hBr⟩ : ∃ Br, Br = w.heap.size + 1 := ⟨_, rfl⟩
  obtain ⟨Bc, hBc⟩ : ∃ Bc, Bc = w.heap.size + 1 + 1 := ⟨_, rfl⟩
  rw [← hBc] at b5 ⊢
  rw [← hBr] at b4 ⊢
  have hbr1 : w.heap.size ≤ Br := by omega
  have hbr2 : Br < w2.heap.size := by omega
  have hbc1 : w.heap.size ≤ Bc := by omega
  have hbc2 : Bc < w2.heap.size := by omega
  have hbne : Br ≠ Bc := by omega
  clear hBr hBc hz1
  gi_wp2_with (first | fail)
  refine ⟨trivial, (callsIn_wide.2 (HA.out w2 hB2)).mono ?_⟩
  rintro e w3 ⟨Bi, Bt, Bf, v, rfl, hD, hb3⟩
  have hB3 := hB2.trans (hb3.mono hB2.size)
  have hz3 := hb3.size
  have b4 : Boxed w3 _ _ _ := (hb3.block Br hbr2).trans b4
  have b5 : Boxed w3 _ _ _ := (hb3.block Bc hbc2).trans b5
  have HSQ := Lib.hid (hD.seq (E := fun i => i = Br ∨ i = Bc) HT.out HT.out (by omega) (by omega) (fun i e => by rcases e with rfl | rfl <;> omega) hz3 (9 - 1))
  rw [← HX.out] at HSQ
  have hzz2 := hB2.size
  clear hD hb3 HA hB2 q0 q1 HT
  gi_wp2
  refine wpIn_rangeFunc_R hro (by omega) (gf := 121) (lb := #[.pointer (some ⟨Bi, 0, none⟩), .pointer (some ⟨Bt, 0, none⟩), .pointer (some ⟨Bf, 0, none⟩)]) rfl trivial (enters_of Try.func121 (by kernel_rfl) rfl) rfl (fun i e => by rcases e with rfl | rfl <;> omega) HSQ.out
    (fun pre k W => w.heap.size ≤ k ∧ (pre.map encM).filter arZ = [] ∧ Boxed W Br 25 (.slice none 0 0) ∧ Boxed W Bc 2 (.int .i64 0) ∧ Below w.heap.size w W)
    (fun c pre k W => c = .ret ∧ ∃ z vx, (pre.map encM).filter arZ = [z] ∧ Boxed W Br 25 vx ∧ Boxed W Bc 2 (.int .i64 0) ∧ OwnJ W w.heap.size vx z ∧ Below w.heap.size w W)
    (fun pre k u X Y row hs hg hr => ⟨hs.1, hs.2.1, hs.2.2.1.kept hg (fun e => by have := (hr _ e.symm).1; omega), hs.2.2.2.1.kept hg (fun e => by have := (hr _ e.symm).1; omega), hs.2.2.2.2.grown hg hs.2.2.2.2.size (fun r e => by have := (hr r e).1; omega)⟩)
    (fun c pre k u X Y row hs hg hr => by
      obtain ⟨e1, z, vx, e2, e3, e4, e5, e6⟩ := hs
      exact ⟨e1, z, vx, e2, e3.kept hg (fun e => by have := (hr _ e.symm).1; omega), e4.kept hg (fun e => by have := (hr _ e.symm).1; omega), ownJ_own w.heap.size vx z X Y row e5 hg (fun r e => (hr r e).2), e6.grown hg e6.size (fun r e => by have := (hr r e).1; omega)⟩)
    ⟨hzz2, rfl, b4, b5, hB3⟩
    (fun x k vx a' W' => (∃ (y0 y1 y4 y6 y7 y8 y9 y10 y11 y12 y13 y14 y15 y16 y17 : Value), a' = { tmps := #[y0, y1, .pointer (some ⟨Br, 0, none⟩), .pointer (some ⟨Bc, 0, none⟩), y4, vx, y6, y7, y8, y9, y10, y11, y12, y13, y14, y15, y16, y17], defers := [] }) ∧ RenR (fun i => i = Br ∨ i = Bc) n (T3 bs) (T3 bs) x k vx W')
    (fun x k vx a' u X Y row hs hg hr => ⟨hs.1, OwnE.ck hs.2.1 (CK.of_grown hg fun r e => (hr r e).2), hs.2.2⟩) ?assign ?body ?done ?stop
  case assign =>
    intro l' pre x k vx W' K hi hRx hK
    obtain ⟨a9, c9, rfl⟩ := OwnJ.formS hRx.1.1
    simp only [List.zip_toArray, List.zip_cons_cons, List.zip_nil_right, List.size_toArray, List.length_cons, List.length_nil, List.foldl_toArray', List.foldl_cons, List.foldl_nil, List.setIfInBounds_toArray, List.set_cons_succ, List.set_cons_zero]
    gi_wp2
    exact hK _ _ (Kept.refl _ _ _) hi ⟨⟨_, _, _, _, _, _, _, _, _, _, _, _, _, _, _, rfl⟩, hRx⟩
  case body =>
    rintro l' pre x k vx a' W' hl' hloop ⟨ik, ip, i3, i4, i5⟩ ⟨⟨y0, y1, y4, y6, y7, y8, y9, y10, y11, y12, y13, y14, y15, y16, y17, rfl⟩, hRx⟩ hlen
    obtain ⟨hRo, f, hfi, rfl⟩ := hRx
    rw [encM_lis] at hRo
    have hlx := castN_lisl n f
    have hcf : ∀ a, a < n → (castN (lisN n f))[a]?.getD 0 = (f a : Int) := fun a ha => castN_at f ha
    obtain ⟨z, hz⟩ : ∃ z, z = castN (lisN n f) := ⟨_, rfl⟩
    rw [← hz] at hRo hlx hcf
    obtain ⟨g9, c9, rfl⟩ := hRo.1.someR (by rw [hlx]; omega)
    obtain ⟨b', off', cap', e1, _, e3⟩ := hRo.1.ia (by rw [hlx]; omega)
    cases e1
    have hga := goesAround_any n (by omega) (by omega) f hfi.1 hfi.2 g9 c9 z W' hlx hcf e3
    rw [hlx]
    rw [hlx] at hRo
    have hmap : ((pre ++ [lisR n f]).map encM).filter arZ = if arZ z = true then [z] else [] := by
      rw [List.map_append, List.filter_append, ip, List.nil_append, List.map_cons, List.map_nil, encM_lis, ← hz]
      cases h : arZ z <;> simp [h]
    cases har : arZ z with
    | false =>
      rw [har] at hga hmap
      have HGA := Lib.hid hga
      have HI := Lib.hid (show w.heap.size ≤ W'.heap.size ∧ ((pre ++ [lisR n f]).map encM).filter arZ = [] ∧ Boxed W' Br 25 (.slice none 0 0) ∧ Boxed W' Bc 2 (.int .i64 0) ∧ Below w.heap.size w W' from ⟨i5.size, by rw [hmap]; rfl, i3, i4, i5⟩)
      clear hga hmap hRo e3 hcf hlx hz i3 i4 i5 ip HSQ b4 b5 hB3 har
      gi_wp2_with (first | fail)
      refine ⟨trivial, (CallsIn.inRound l' (callsIn_wide.2 HGA.out)).mono ?_⟩
      rintro e w' ⟨rfl, rfl⟩
      gi_wp2
      exact ⟨Kept.refl _ _ _, HI.out⟩
    | true =>
      rw [har, if_pos rfl] at hmap
      rw [har] at hga
      have HGA := Lib.hid hga
      have x1 := i3.cell
      have x2 := i3.frozen
      have x3 := i4.cell
      have x4 := i4.frozen
      obtain ⟨V, hV⟩ : ∃ V, V = (W'.setCell ⟨Br, 0, none⟩ (.slice (some ⟨g9, 0, none⟩) n c9)).setCell ⟨Bc, 0, none⟩ (.int .i64 0) := ⟨_, rfl⟩
      have g1 := set_gb W' Br 0 (.slice (some ⟨g9, 0, none⟩) n c9)
      have g2 := set_gb (W'.setCell ⟨Br, 0, none⟩ (.slice (some ⟨g9, 0, none⟩) n c9)) Bc 0 (.int .i64 0)
      have hck : CK (fun i => i = Br ∨ i = Bc) W' V := by
        rw [hV]
        exact (CK.of_grownBy g1 (fun r e => by cases e; exact .inl rfl)).trans (CK.of_grownBy g2 (fun r e => by cases e; exact .inr rfl))
      have hkk : Kept w3.heap.size (fun i => i = Br ∨ i = Bc) W' V := by
        rw [hV]
        exact (Kept.grown g1 (fun r e => by cases e; exact .inl rfl)).trans (Kept.grown g2 (fun r e => by cases e; exact .inr rfl))
      have hix : Boxed V Br 25 (.slice (some ⟨g9, 0, none⟩) n c9) ∧ Boxed V Bc 2 (.int .i64 0) ∧ OwnJ V w.heap.size (.slice (some ⟨g9, 0, none⟩) n c9) z ∧ Below w.heap.size w V := by
        refine ⟨?_, ?_, (OwnE.ck hRo hck).1.baseD ik, ?_⟩
        · rw [hV]
          exact (i3.set _).kept g2 (fun e => hbne (by cases e; rfl))
        · rw [hV]
          exact (i4.kept g1 (fun e => hbne (by cases e; rfl))).set _
        · rw [hV]
          exact (i5.setCell (p := ⟨Br, 0, none⟩) hbr1 _).setCell (p := ⟨Bc, 0, none⟩) hbc1 _
      have x5 : (W'.setCell ⟨Br, 0, none⟩ (.slice (some ⟨g9, 0, none⟩) n c9)).cell? ⟨Bc, 0, none⟩ = some (.int .i64 0) := (i4.kept g1 (fun e => hbne (by cases e; rfl))).cell
      have x6 : (W'.setCell ⟨Br, 0, none⟩ (.slice (some ⟨g9, 0, none⟩) n c9)).frozen? ⟨Bc, 0, none⟩ = false := (i4.kept g1 (fun e => hbne (by cases e; rfl))).frozen
      have HIX := Lib.hid hix
      have HKK := Lib.hid hkk
      have HV := Lib.hid hV
      have HMP := Lib.hid hmap
      clear hix hkk hck hV g1 g2 hRo i3 i4 i5 HSQ b4 b5 hB3 hga hmap e3 hcf hlx hz ip har
      gi_wp2_with (first | fail)
      refine ⟨trivial, (CallsIn.inRound l' (callsIn_wide.2 HGA.out)).mono ?_⟩
      rintro e w' ⟨rfl, rfl⟩
      gi_wp2
      rw [← HV.out]
      exact ⟨HKK.out, rfl, z, _, HMP.out, HIX.out⟩
  case done =>
    rintro D ys k W' hD hys ⟨-, ip, i3, i4, i5⟩ hK
    have hrr : rr = ([], 4) := by
      rw [HRR.out, ← hys, ip]
      rfl
    subst hrr
    have x1 := i3.cell
    have x2 := i3.frozen
    obtain ⟨V, hV⟩ : ∃ V, V = (W'.setCell ⟨Br, 0, none⟩ (.slice none 0 0)).setCell ⟨Bc, 0, none⟩ (.int .i64 4) := ⟨_, rfl⟩
    have g1 := set_gb W' Br 0 (.slice none 0 0)
    have g2 := set_gb (W'.setCell ⟨Br, 0, none⟩ (.slice none 0 0)) Bc 0 (.int .i64 4)
    have x5 : (W'.setCell ⟨Br, 0, none⟩ (.slice none 0 0)).cell? ⟨Bc, 0, none⟩ = some (.int .i64 0) := (i4.kept g1 (fun e => hbne (by cases e; rfl))).cell
    have x6 : (W'.setCell ⟨Br, 0, none⟩ (.slice none 0 0)).frozen? ⟨Bc, 0, none⟩ = false := (i4.kept g1 (fun e => hbne (by cases e; rfl))).frozen
    have hk2 : V.heap[D]? = some (.deferred (some [])) := by
      rw [hV]
      have hlt := (Array.getElem?_eq_some_iff.1 hK).1
      exact (g2.block D (Nat.lt_of_lt_of_le hlt g1.size) (fun e => by have : D = Bc := by cases e; rfl
                                                                      omega)).trans ((g1.block D hlt (fun e => by have : D = Br := by cases e; rfl
                                                                                                                  omega)).trans hK)
    have hix : Boxed V Br 25 (.slice none 0 0) ∧ Boxed V Bc 2 (.int .i64 4) ∧ Below w.heap.size w V := by
      refine ⟨?_, ?_, ?_⟩
      · rw [hV]
        exact (i3.set _).kept g2 (fun e => hbne (by cases e; rfl))
      · rw [hV]
        exact (i4.kept g1 (fun e => hbne (by cases e; rfl))).set _
      · rw [hV]
        exact (i5.setCell (p := ⟨Br, 0, none⟩) hbr1 _).setCell (p := ⟨Bc, 0, none⟩) hbc1 _
    have hM5 : Marks w.heap.size V V.heap.size [{ target := .collected D, args := #[] }] := ⟨D, rfl, by omega, (Array.getElem?_eq_some_iff.1 hk2).1, hk2, trivial⟩
    have HIX := Lib.hid hix
    have HM5 := Lib.hid hM5
    have HV := Lib.hid hV
    clear hix hV g1 g2 i3 i4 i5 HSQ b4 b5 hB3 hM5 hk2 hK HRR ip
    gi_wp2
    rw [← HV.out]
    refine leaves_marks (n0 := w.heap.size) (fun W => Boxed W Br 25 (.slice none 0 0) ∧ Boxed W Bc 2 (.int .i64 4) ∧ Below w.heap.size w W) ?_ ?_ _ V.heap.size V HM5.out HIX.out
    · rintro W D ⟨e1, e2, e3⟩ hD hK
      exact ⟨boxed_put _ e1 hK, boxed_put _ e2 hK, e3.trans (belowK_b (w := w) (Nat.le_refl _) W D _ _ hD hK rfl rfl)⟩
    · rintro W ⟨e1, e2, e3⟩
      have y1 := e1.cell
      have y2 := e2.cell
      exact ⟨_, by simp [results, Try.f45, go_sem, y1, y2], _, rfl, OwnJ.nil _ _, e3⟩
  case stop =>
    rintro D c pre k W' hD hSp ⟨rfl, z, vx, ep, e3, e4, e5, e6⟩ hK
    have hrr : rr = (z, 0) := by
      obtain ⟨L, hL⟩ := hSp
      rw [HRR.out, ← hL, List.map_append, List.filter_append, ep]
      rfl
    subst hrr
    have hM5 : Marks w.heap.size W' W'.heap.size [{ target := .collected D, args := #[] }] := ⟨D, rfl, by omega, (Array.getElem?_eq_some_iff.1 hK).1, hK, trivial⟩
    clear HSQ b4 b5 hB3 hK HRR hSp
    gi_wp2
    refine leaves_marks (n0 := w.heap.size) (fun W => Boxed W Br 25 vx ∧ Boxed W Bc 2 (.int .i64 0) ∧ OwnJ W w.heap.size vx z ∧ Below w.heap.size w W) ?_ ?_ _ W'.heap.size W' hM5 ⟨e3, e4, e5, e6⟩
    · rintro W D ⟨e1, e2, e3, e4⟩ hD hK
      exact ⟨boxed_put _ e1 hK, boxed_put _ e2 hK, (ownJ_own w.heap.size vx).putObj _ e3 hK rfl, e4.trans (belowK_b (w := w) (Nat.le_refl _) W D _ _ hD hK rfl rfl)⟩
    · rintro W ⟨e1, e2, e3, e4⟩
      have y1 := e1.cell
      have y2 := e2.cell
      exact ⟨_, by simp [results, Try.f45, go_sem, y1, y2], _, rfl, e3, e4⟩
set_option maxRecDepth 100000 in
theorem Goes_any (v : Int) (s : Value) (bs : List Blk) (w : World) (h : SB w s bs) : Calls Try.prog 45 #[.agg #[.int .i64 v, s]] w (RJ (gaF v bs) w) := by
  by_cases hc : fullC v bs = 0
  · obtain ⟨hi, hf⟩ := fullC_ok hc
    obtain ⟨n, rfl⟩ : ∃ n : Nat, v = (n : Int) := ⟨v.toNat, by have := (sys_size hi).1; omega⟩
    have := Goes_main n s bs w h hi hf
    unfold gaF
    rw [if_pos hc, Int.toNat_natCast]
    exact this
  · have hval : gaF v bs = ([], fullC v bs) := by simp [gaF, hc]
    rw [hval]
    have hfc := fun W hb B c0 c1 => fullCode_one B v s bs W (h.below (w' := W) hb (Nat.le_refl _)) c0 c1
    obtain ⟨W1, hW1⟩ : ∃ W1, W1 = (((w.alloc (.cells #[.int .i64 v, s] 31)).alloc (.cells #[.slice none 0 0] 25)).alloc (.cells #[.int .i64 0] 2)).alloc (.cells #[.int .i64 v, s] 31) := ⟨_, rfl⟩
    have hB1 : Below w.heap.size w W1 := by rw [hW1]; exact ((((Below.refl _ _).alloc (Nat.le_refl _) _).alloc (by simp) _).alloc (by simp <;> omega) _).alloc (by simp <;> omega) _
    obtain ⟨a1, c1, rfl⟩ := h.slice
    have b4 : Boxed W1 (w.heap.size + 1) 25 (.slice none 0 0) := by
      have := ((Boxed.new (w.alloc (.cells #[.int .i64 v, .slice a1 bs.length c1] 31)) 25 (.slice none 0 0)).alloc (.cells #[.int .i64 0] 2)).alloc (.cells #[.int .i64 v, .slice a1 bs.length c1] 31)
      simp only [World.size_alloc] at this
      rw [hW1]
      exact this
    have b5 : Boxed W1 (w.heap.size + 1 + 1) 2 (.int .i64 0) := by
      have := (Boxed.new ((w.alloc (.cells #[.int .i64 v, .slice a1 bs.length c1] 31)).alloc (.cells #[.slice none 0 0] 25)) 2 (.int .i64 0)).alloc (.cells #[.int .i64 v, .slice a1 bs.length c1] 31)
      simp only [World.size_alloc] at this
      rw [hW1]
      exact this
    have hz1 : W1.heap.size = w.heap.size + 1 + 1 + 1 + 1 := by rw [hW1]; simp
    have hcall := hfc W1 hB1 (w.heap.size + 1 + 1 + 1) (by rw [hW1]; simp [go_sem]) (by rw [hW1]; simp [go_sem])
    obtain ⟨k, hk⟩ : ∃ k, k = fullC v bs := ⟨_, rfl⟩
    rw [← hk] at hcall hc ⊢
    have HCL := Lib.hid hcall
    have hk1 : (k != 0) = true := by simpa using hc
    clear hval hfc hcall hk h
    have hro : Fence.wide.round = none := rfl
    refine (callsIn_wide (n := 9)).1 ?_
    refine callsIn_of_wp_marks Try.func45 rfl trivial ?_ hro
    simp only [Try.ntmps45, List.size_toArray, List.length_cons, List.length_nil, Nat.reduceAdd, Nat.reduceSub, Array.replicate_succ, Array.replicate_zero, List.push_toArray, List.append_toArray, List.nil_append, List.cons_append]
    gi_wp2_with (first | fail)
    rw [← hW1]
    refine ⟨trivial, (callsIn_wide.2 HCL.out).mono ?_⟩
    rintro e w2 ⟨rfl, hb2⟩
    have hB2 := hB1.trans (hb2.mono hB1.size)
    have b4 : Boxed w2 _ _ _ := (hb2.block (w.heap.size + 1) (by omega)).trans b4
    have b5 : Boxed w2 _ _ _ := (hb2.block (w.heap.size + 1 + 1) (by omega)).trans b5
    clear hb2 hW1 hB1 HCL
    obtain ⟨Br, hBr⟩ : ∃ Br, Br = w.heap.size + 1 := ⟨_, rfl⟩
    obtain ⟨Bc, hBc⟩ : ∃ Bc, Bc = w.heap.size + 1 + 1 := ⟨_, rfl⟩
    rw [← hBc] at b5 ⊢
    rw [← hBr] at b4 ⊢
    have hbr1 : w.heap.size ≤ Br := by omega
    have hbc1 : w.heap.size ≤ Bc := by omega
    have hbne : Br ≠ Bc := by omega
    clear hBr hBc hz1
    have x1 := b4.cell
    have x2 := b4.frozen
    have g1 := set_gb w2 Br 0 (.slice none 0 0)
    have g2 := set_gb (w2.setCell ⟨Br, 0, none⟩ (.slice none 0 0)) Bc 0 (.int .i64 k)
    have x5 : (w2.setCell ⟨Br, 0, none⟩ (.slice none 0 0)).cell? ⟨Bc, 0, none⟩ = some (.int .i64 0) := (b5.kept g1 (fun e => hbne (by cases e; rfl))).cell
    have x6 : (w2.setCell ⟨Br, 0, none⟩ (.slice none 0 0)).frozen? ⟨Bc, 0, none⟩ = false := (b5.kept g1 (fun e => hbne (by cases e; rfl))).frozen
    obtain ⟨V, hV⟩ : ∃ V, V = (w2.setCell ⟨Br, 0, none⟩ (.slice none 0 0)).setCell ⟨Bc, 0, none⟩ (.int .i64 k) := ⟨_, rfl⟩
    have y1 : Boxed V Br 25 (.slice none 0 0) := by
      rw [hV]
      exact (b4.set _).kept g2 (fun e => hbne (by cases e; rfl))
    have y2 : Boxed V Bc 2 (.int .i64 k) := by
      rw [hV]
      exact (b5.kept g1 (fun e => hbne (by cases e; rfl))).set _
    have y3 : Below w.heap.size w V := by
      rw [hV]
      exact (hB2.setCell (p := ⟨Br, 0, none⟩) hbr1 _).setCell (p := ⟨Bc, 0, none⟩) hbc1 _
    have HV := Lib.hid hV
    have Y1 := Lib.hid y1
    have Y2 := Lib.hid y2
    have Y3 := Lib.hid y3
    clear g1 g2 b4 b5 hB2 hV y1 y2 y3
    gi_wp2
    rw [← HV.out]
    refine leaves_marks (n0 := w.heap.size) (fun W => Boxed W Br 25 (.slice none 0 0) ∧ Boxed W Bc 2 (.int .i64 k) ∧ Below w.heap.size w W) ?_ ?_ [] 0 V trivial ⟨Y1.out, Y2.out, Y3.out⟩
    · rintro W D ⟨e1, e2, e3⟩ hD hK
      exact ⟨boxed_put _ e1 hK, boxed_put _ e2 hK, e3.trans (belowK_b (w := w) (Nat.le_refl _) W D _ _ hD hK rfl rfl)⟩
    · rintro W ⟨e1, e2, e3⟩
      have y1 := e1.cell
      have y2 := e2.cell
      exact ⟨_, by simp [results, Try.f45, go_sem, y1, y2], _, rfl, OwnJ.nil _ _, e3⟩
end Go.Proofs.Ytoicdfdfajfopaa

namespace Go.Proofs.Ytoicdfdfajfopaa
open Go.ChangeShapes Go.WideShapes Go.ChangeAt Go.RowKit Go.Deep Go.Joins
theorem ownKnobs : ownKnob Try.prog.godebug = none := by kernel_rfl
section
variable {H : Type} {enc : TypeId × Value → H} {W : World} {base : Nat} {held : Bool}
theorem arrCells : Try.prog.cellsOf 70 = 3 := by kernel_rfl
set_option maxRecDepth 100000 in
theorem open_arr3 {fuel : Nat} {cs : List Value} {x : DataW H × List MemPlace} (h : DataW.trod enc Try.prog W base (fun _ => true) held fuel 70 cs = some x) :
    ∃ a b c : Int, cs = [.int .i64 a, .int .i64 b, .int .i64 c] ∧ (Lit.int .i64 a).wf = true ∧ (Lit.int .i64 b).wf = true ∧ (Lit.int .i64 c).wf = true := by
  obtain ⟨xs, m, rfl, rfl, hl, hx, hat⟩ := DataW.trod_array Try.underlying70 h
  rw [arrCells] at hl
  match cs, hl with
  | [c0, c1, c2], _ =>
    match xs, hx with
    | [x0, x1, x2], _ =>
      have h0 := hat 0 (by omega)
      have h1 := hat 1 (by omega)
      have h2 := hat 2 (by omega)
      rw [int64Cells] at h0 h1 h2
      simp at h0 h1 h2
      obtain ⟨a, ha, _, wa⟩ := DataW.trod_int Try.underlying2 h0
      obtain ⟨b, hb, _, wb⟩ := DataW.trod_int Try.underlying2 h1
      obtain ⟨c, hc, _, wc⟩ := DataW.trod_int Try.underlying2 h2
      simp at ha hb hc
      exact ⟨a, b, c, by rw [ha, hb, hc], wa, wb, wc⟩
theorem add_at (b off i : Nat) : (⟨b, off, none⟩ : Addr).add i = ⟨b, off + i, none⟩ := by
  unfold Addr.add
  split
  · subst_vars; rfl
  · rfl
set_option maxRecDepth 100000 in
theorem open_arrs {fuel : Nat} {s : Value} {x : DataW H × List MemPlace} (h : DataW.trod enc Try.prog W base (fun _ => true) held fuel 22 [s] = some x) : ∃ bs, InB W s bs := by
  rcases open_slice Try.underlying22 h with ⟨hcs, _⟩ | ⟨a, len, cap, m, n, D, Pl, hcs, hb, hl, hm, hmm, hx, hi⟩
  · simp at hcs
    exact ⟨[], by simp, by simp, .inl ⟨none, 0, hcs, rfl⟩⟩
  · simp at hcs
    subst hcs
    simp at hmm
    subst hmm
    have hm' : m ≤ 9223372036854775807 := by unfold maxLen at hm; exact hm
    by_cases h0 : len = 0
    · subst h0
      exact ⟨[], by simp, by simp, .inl ⟨_, _, rfl, rfl⟩⟩
    · have cell : ∀ i, i < m → ∃ y : Blk, WFB y ∧ ∀ j (v : Value), [Value.int .i64 y.a, Value.int .i64 y.b, Value.int .i64 y.c][j]? = some v → W.cell? (a.add (i * 3 + j)) = some v := fun i him => by
        obtain ⟨cs', hc, ht⟩ := hi i him
        obtain ⟨p, q, r, rfl, wp, wq, wr⟩ := open_arr3 ht
        rw [arrCells] at hc
        obtain ⟨_, _, hat⟩ := World.cells?_some hc
        refine ⟨⟨p, q, r⟩, ⟨wp, wq, wr⟩, fun j v hv => ?_⟩
        have hj : j < 3 := by
          have := (List.getElem?_eq_some_iff.1 hv).1
          simpa using this
        rw [← Go.Deep.add_add, hat j hj]
        exact hv
      obtain ⟨F, hF⟩ := choose_lt (α := Blk) cell
      obtain ⟨b, off, spot⟩ := a
      have hc0 := (hF 0 (by omega)).2 0 _ rfl
      have hspot : spot = none := by simpa [Addr.add] using World.cell?_spot hc0
      subst hspot
      refine ⟨(List.range len).map F, ?_, by simp; omega, .inr ⟨b, off, m, by simp, ?_, ?_⟩⟩
      · intro y hy
        obtain ⟨i, hi', rfl⟩ := List.mem_map.1 hy
        exact (hF i (by have := List.mem_range.1 hi'; omega)).1
      · exact block_lt_of_cell hc0
      · intro k hk
        simp at hk
        have e : ((List.range len).map F)[k]?.getD default = F k := by simp [hk]
        rw [e]
        have := (hF k (by omega)).2
        refine ⟨?_, ?_, ?_⟩
        · have h0 := this 0 _ rfl
          rw [add_at] at h0
          exact h0
        · have h1 := this 1 _ rfl
          rw [add_at, ← Nat.add_assoc] at h1
          exact h1
        · have h2 := this 2 _ rfl
          rw [add_at, ← Nat.add_assoc] at h2
          exact h2
theorem isSys : ∃ f0 f1 : Field, Try.prog.underlying 24 = some (.struct #[f0, f1]) ∧ f0.type = 2 ∧ f1.type = 22 ∧ oneCellFields Try.prog #[f0, f1] = true :=
  ⟨_, _, Try.underlying24, rfl, rfl, by kernel_rfl⟩
theorem sysCells : Try.prog.cellsOf 24 = 2 := by kernel_rfl
set_option maxRecDepth 100000 in
theorem open_system {r : Reach} {b0 : Nat} {v : Value} {d : DataW H} {p : List MemPlace} (hv : Value.okWide Try.prog W r b0 24 v) (h : DataW.Trod enc Try.prog W base (fun _ => true) held 24 v d p) :
    ∃ (n : Int) (s : Value) (bs : List Blk), v = .agg #[.int .i64 n, s] ∧ WF n ∧ InB W s bs := by
  obtain ⟨f0, f1, hu, e0, e1, hone⟩ := isSys
  obtain ⟨v0, v1, y0, y1, n, rfl, _, _, h0, h1⟩ := open_agg2 hu hone sysCells hv h
  rw [e0] at h0
  rw [e1] at h1
  obtain ⟨k, hk, _, wk⟩ := DataW.trod_int Try.underlying2 h0
  simp at hk
  subst hk
  obtain ⟨bs, hbs⟩ := open_arrs h1
  exact ⟨k, v1, bs, rfl, wk, hbs⟩
end
end Go.Proofs.Ytoicdfdfajfopaa

namespace Go.Proofs.Ytoicdfdfajfopaa
open Go.ChangeShapes Go.WideShapes Go.ChangeAt Go.RowKit Go.Deep Go.Joins
/-- The value is a slice of just these integers, however many. -/
def InZ (w : World) (s : Value) (zs : List Int) : Prop :=
  (∀ z ∈ zs, WF z) ∧ zs.length ≤ 9223372036854775807 ∧ ((∃ a c, s = .slice a 0 c ∧ zs = []) ∨ ∃ b off cap, s = .slice (some ⟨b, off, none⟩) zs.length cap ∧ b < w.heap.size ∧ Ints w b off zs)
theorem InZ.slice {w : World} {s : Value} {zs : List Int} (h : InZ w s zs) : ∃ a c, s = .slice a zs.length c := by
  rcases h.2.2 with ⟨a, c, rfl, rfl⟩ | ⟨b, off, cap, rfl, _⟩ <;> exact ⟨_, _, rfl⟩
theorem InZ.ib {w : World} {s : Value} {zs : List Int} (h : InZ w s zs) (hl : zs.length ≤ 1048576) : IB w s zs := ⟨by omega, h.2.2⟩
/-- The value is a slice of just these rows, however many. -/
def InSS (w : World) (s : Value) (n : Nat) (F : Nat → List Int) : Prop :=
  n ≤ 9223372036854775807 ∧ ((n = 0 ∧ ∃ a c, s = .slice a 0 c) ∨ ∃ b off cap, s = .slice (some ⟨b, off, none⟩) n cap ∧ b < w.heap.size ∧ ∀ k, k < n → ∃ u, w.cell? ⟨b, off + k, none⟩ = some u ∧ InZ w u (F k))
theorem okWide_array {P : Program} {w : World} {r : Reach} {base : Nat} {t : TypeId} {v : Value} {n : Nat} {e : TypeId} (ht : P.underlying t = some (.array n e)) (h : Value.okWide P w r base t v) : ∃ cs, v = .agg cs ∧ cs.size = P.cellsOf t := by
  simp only [Value.okWide, ht] at h
  obtain ⟨cs, h1, h2, _⟩ := h
  exact ⟨cs, h1, h2⟩
section
variable {H : Type} {enc : TypeId × Value → H} {W : World} {base : Nat} {held : Bool}
set_option maxRecDepth 100000 in
theorem open_zs {fuel : Nat} {s : Value} {x : DataW H × List MemPlace} (h : DataW.trod enc Try.prog W base (fun _ => true) held fuel 25 [s] = some x) : ∃ zs, InZ W s zs := by
  rcases open_slice1 Try.underlying25 int64Cells h with ⟨hcs, _⟩ | ⟨a, len, cap, m, n, V, D, Pl, hcs, hb, hl, hm, hmm, hx, hi⟩
  · simp at hcs
    exact ⟨[], by simp, by simp, .inl ⟨none, 0, hcs, rfl⟩⟩
  · simp at hcs
    subst hcs
    simp at hmm
    subst hmm
    have hm' : m ≤ 9223372036854775807 := by unfold maxLen at hm; exact hm
    by_cases h0 : len = 0
    · subst h0
      exact ⟨[], by simp, by simp, .inl ⟨_, _, rfl, rfl⟩⟩
    · have cell : ∀ i, i < m → ∃ y : Int, WF y ∧ W.cell? (a.add i) = some (.int .i64 y) := fun i him => by
        obtain ⟨hc, ht⟩ := hi i him
        obtain ⟨k, hk, _, wk⟩ := DataW.trod_int Try.underlying2 ht
        simp at hk
        exact ⟨k, wk, by rw [hc, hk]⟩
      obtain ⟨F, hF⟩ := choose_lt (α := Int) cell
      obtain ⟨b, off, spot⟩ := a
      have hc0 := (hF 0 (by omega)).2
      have hspot : spot = none := by simpa [Addr.add] using World.cell?_spot hc0
      subst hspot
      refine ⟨(List.range len).map F, ?_, by simp; omega, .inr ⟨b, off, m, by simp, ?_, ?_⟩⟩
      · intro y hy
        obtain ⟨i, hi', rfl⟩ := List.mem_map.1 hy
        exact (hF i (by have := List.mem_range.1 hi'; omega)).1
      · exact block_lt_of_cell hc0
      · intro k hk
        simp at hk
        have e : ((List.range len).map F)[k]?.getD 0 = F k := by simp [hk]
        rw [e]
        have h1 := (hF k (by omega)).2
        rw [add_at] at h1
        exact h1
set_option maxRecDepth 100000 in
theorem open_ints64 {r : Reach} {b0 : Nat} {v : Value} {d : DataW H} {p : List MemPlace} (hv : Value.okWide Try.prog W r b0 25 v) (h : DataW.Trod enc Try.prog W base (fun _ => true) held 25 v d p) : ∃ zs, InZ W v zs := by
  obtain ⟨a, len, cap, rfl⟩ := okWide_slice Try.underlying25 hv
  obtain ⟨fuel, hf⟩ := h
  exact open_zs hf
set_option maxRecDepth 100000 in
theorem open_blocks {r : Reach} {b0 : Nat} {v : Value} {d : DataW H} {p : List MemPlace} (hv : Value.okWide Try.prog W r b0 22 v) (h : DataW.Trod enc Try.prog W base (fun _ => true) held 22 v d p) : ∃ bs, InB W v bs := by
  obtain ⟨a, len, cap, rfl⟩ := okWide_slice Try.underlying22 hv
  obtain ⟨fuel, hf⟩ := h
  exact open_arrs hf
theorem sliceCells : Try.prog.cellsOf 25 = 1 := by kernel_rfl
set_option maxRecDepth 100000 in
theorem open_rows {r : Reach} {b0 : Nat} {v : Value} {d : DataW H} {p : List MemPlace} (hv : Value.okWide Try.prog W r b0 46 v) (h : DataW.Trod enc Try.prog W base (fun _ => true) held 46 v d p) : ∃ n F, InSS W v n F := by
  obtain ⟨A0, L0, C0, rfl⟩ := okWide_slice Try.underlying46 hv
  obtain ⟨fuel, hf⟩ := h
  have hf' : DataW.trod enc Try.prog W base (fun _ => true) held fuel 46 [.slice A0 L0 C0] = some (d, p) := hf
  rcases open_slice1 Try.underlying46 sliceCells hf' with ⟨hcs, _⟩ | ⟨a, len, cap, m, n, V, D, Pl, hcs, hb, hl, hm, hmm, hx, hi⟩
  · simp at hcs
    obtain ⟨rfl, rfl, rfl⟩ := hcs
    exact ⟨0, fun _ => [], by omega, .inl ⟨rfl, _, _, rfl⟩⟩
  · simp at hcs
    obtain ⟨e1, e2, e3⟩ := hcs
    subst e1
    subst e2
    subst e3
    simp at hmm
    subst hmm
    have hm' : m ≤ 9223372036854775807 := by unfold maxLen at hm; exact hm
    by_cases h0 : L0 = 0
    · subst h0
      exact ⟨0, fun _ => [], by omega, .inl ⟨rfl, _, _, rfl⟩⟩
    · have cell : ∀ i, i < m → ∃ y : List Int, ∃ u, W.cell? (a.add i) = some u ∧ InZ W u y := fun i him => by
        obtain ⟨hc, ht⟩ := hi i him
        obtain ⟨zs, hz⟩ := open_zs ht
        exact ⟨zs, _, hc, hz⟩
      obtain ⟨F, hF⟩ := choose_lt (α := List Int) cell
      obtain ⟨b, off, spot⟩ := a
      obtain ⟨u0, hc0, _⟩ := hF 0 (by omega)
      have hspot : spot = none := by simpa [Addr.add] using World.cell?_spot hc0
      subst hspot
      refine ⟨L0, F, by omega, .inr ⟨b, off, m, rfl, block_lt_of_cell hc0, fun k hk => ?_⟩⟩
      obtain ⟨u, h1, h2⟩ := hF k (by omega)
      rw [add_at] at h1
      exact ⟨u, h1, h2⟩
set_option maxRecDepth 100000 in
theorem open_blk {r : Reach} {b0 : Nat} {v : Value} {d : DataW H} {p : List MemPlace} (hv : Value.okWide Try.prog W r b0 70 v) (h : DataW.Trod enc Try.prog W base (fun _ => true) held 70 v d p) : ∃ x, v = bv x ∧ WFB x := by
  obtain ⟨cs, rfl, hsz⟩ := okWide_array Try.underlying70 hv
  obtain ⟨fuel, hf⟩ := h
  obtain ⟨a, b, c, e, wa, wb, wc⟩ := open_arr3 hf
  have : cs.toList = [.int .i64 a, .int .i64 b, .int .i64 c] := e
  refine ⟨⟨a, b, c⟩, ?_, wa, wb, wc⟩
  unfold bv
  rw [← this]
end
end Go.Proofs.Ytoicdfdfajfopaa

namespace Go.Proofs.Ytoicdfdfajfopaa
open Go.RowKit Go.Maps
structure CS (w : World) (v p : Int) (s sW s8 sG : Value) (XW X XG i0 i1 j1 j2 k1 k2 : Nat) (LW L8 LG : List Blk) (W : World) : Prop where
  st : St1 w v s W
  o0 : w.heap.size < i0
  o1 : i0 ≤ i1
  o2 : i1 ≤ XW
  o3 : XW < j1
  o4 : j1 ≤ j2
  o5 : j2 ≤ X
  o6 : X < k1
  o7 : k1 ≤ k2
  o8 : k2 ≤ XG
  rW : ResR W i0 i1 sW LW
  vW : VarB W XW p sW
  r8 : ResR W j1 j2 s8 L8
  vX : VarB W X v s8
  rG : ResR W k1 k2 sG LG
  vG : VarB W XG p sG
section
variable {w : World} {v p : Int} {s sW s8 sG : Value} {XW X XG i0 i1 j1 j2 k1 k2 : Nat} {LW L8 LG : List Blk} {W W' : World}
theorem CS.step (h : CS w v p s sW s8 sG XW X XG i0 i1 j1 j2 k1 k2 LW L8 LG W) (hg : W.grownBy W' none) : CS w v p s sW s8 sG XW X XG i0 i1 j1 j2 k1 k2 LW L8 LG W' :=
  ⟨h.st.step hg (by simp), h.o0, h.o1, h.o2, h.o3, h.o4, h.o5, h.o6, h.o7, h.o8, h.rW.kept hg (by simp), h.vW.step hg (by simp), h.r8.kept hg (by simp), h.vX.step hg (by simp), h.rG.kept hg (by simp), h.vG.step hg (by simp)⟩
theorem CS.mark8 (h : CS w v p s sW s8 sG XW X XG i0 i1 j1 j2 k1 k2 LW L8 LG W) {row : Option Nat} (hg : W.grownBy W' row) (hr : ∀ r, row = some r → j1 ≤ r ∧ r < j2) {L : List Blk} (hn : ResR W' j1 j2 s8 L) :
    CS w v p s sW s8 sG XW X XG i0 i1 j1 j2 k1 k2 LW L LG W' := by
  obtain ⟨st, o0, o1, o2, o3, o4, o5, o6, o7, o8, rW, vW, r8, vX, rG, vG⟩ := h
  exact ⟨st.step hg (fun r e => by have := hr r e; omega), o0, o1, o2, o3, o4, o5, o6, o7, o8, rW.kept hg (fun r e => by have := hr r e; omega), vW.step hg (fun e => by have := hr _ e; omega), hn, vX.step hg (fun e => by have := hr _ e; omega), rG.kept hg (fun r e => by have := hr r e; omega), vG.step hg (fun e => by have := hr _ e; omega)⟩
theorem CS.markG (h : CS w v p s sW s8 sG XW X XG i0 i1 j1 j2 k1 k2 LW L8 LG W) {row : Option Nat} (hg : W.grownBy W' row) (hr : ∀ r, row = some r → k1 ≤ r ∧ r < k2) {L : List Blk} (hn : ResR W' k1 k2 sG L) :
    CS w v p s sW s8 sG XW X XG i0 i1 j1 j2 k1 k2 LW L8 L W' := by
  obtain ⟨st, o0, o1, o2, o3, o4, o5, o6, o7, o8, rW, vW, r8, vX, rG, vG⟩ := h
  exact ⟨st.step hg (fun r e => by have := hr r e; omega), o0, o1, o2, o3, o4, o5, o6, o7, o8, rW.kept hg (fun r e => by have := hr r e; omega), vW.step hg (fun e => by have := hr _ e; omega), r8.kept hg (fun r e => by have := hr r e; omega), vX.step hg (fun e => by have := hr _ e; omega), hn, vG.step hg (fun e => by have := hr _ e; omega)⟩
end
end Go.Proofs.Ytoicdfdfajfopaa



namespace Go.Proofs.Ytoicdfdfajfopaa
open Go.RowKit Go.Maps
set_option maxRecDepth 100000 in
set_option maxHeartbeats 2000000 in
theorem FnExactGoesAround_main (v0 : Int) (s0 : Value) (bs0 : List Blk) (w : World) (h0 : InB w s0 bs0) (hl : bs0.length ≤ 1048576) :
    Calls Try.prog 12 #[.agg #[.int .i64 v0, s0]] w (RV (.bool true) w) := by
  have hsl0 := h0.slice
  have hbd0 := h0.2.1
  have hsz0 := szSystem_any v0 s0 bs0.length hsl0 (by omega) 1048576 (by omega) (by omega)
  rw [if_neg (by omega)] at hsz0
  obtain ⟨m0, hm0⟩ : ∃ m, m = (1048576 : Int) - (bs0.length : Int) := ⟨_, rfl⟩
  rw [← hm0] at hsz0
  have hmp0 : 0 ≤ m0 := by omega
  have HSZ0 := Lib.hid hsz0
  have HSB0 := Lib.hid (h0.sb (by omega))
  have HBD0 := Lib.hid (show bs0.length ≤ 1100000 by omega)
  have HWF0 := Lib.hid h0.1
  obtain ⟨L, hL⟩ : ∃ L, L = (gaF v0 bs0).1 := ⟨_, rfl⟩
  obtain ⟨κ, hκ⟩ : ∃ κ, κ = (gaF v0 bs0).2 := ⟨_, rfl⟩
  have hp : gaF v0 bs0 = (L, κ) := by rw [hL, hκ]
  have LBD := Lib.hid (show L.length ≤ 1100000 by rw [hL]; exact Nat.le_trans (gaF_len v0 bs0) (by omega))
  have HSP := Lib.hid fun (W : World) (t0 : Value) (r0 : SC W t0 bs0) => specGoes_any v0 t0 bs0 W r0.1
  have HIM := Lib.hid fun (W : World) (t0 : Value) (r0 : SB W t0 bs0) => Goes_any v0 t0 bs0 W r0
  rw [hp] at HSP HIM
  have hnk : (κ != κ) = false := by simp
  clear hsz0 hm0 hbd0 hL hκ hp h0 hl
  obtain ⟨a0, c0, rfl⟩ := hsl0
  go_enter Try.func12, Try.ntmps12
  have hm := ((Mem.start w).pushVar v0 (.slice a0 bs0.length c0) 24)
  have fA00 := (hm.var 0 rfl).c0
  have fA01 := (hm.var 0 rfl).c1
  have HM := Lib.hid hm
  clear hm
  go_wp2_with fail
  refine (HSZ0.out _).mono ?_
  rintro e w1 ⟨rfl, hbw1⟩
  have hm := HM.out.step (gb_below hbw1)
  clear fA00 fA01
  clear HM hbw1
  have fA00 := (hm.var 0 rfl).c0
  have fA01 := (hm.var 0 rfl).c1
  have HM := Lib.hid hm
  clear hm
  go_wp2_with fail
  refine (toSystem_any v0 _ bs0 _ (HSB0.out.below HM.out.below (Nat.le_refl _))).mono ?_
  rintro e w2 ⟨tw2, rfl, how2, hbw2⟩
  have r3 := how2.sc HWF0.out HBD0.out
  obtain ⟨gw2, capw2, hsw2, _⟩ := id how2
  subst hsw2
  have hm := HM.out.step (gb_below hbw2)
  clear fA00 fA01
  clear HM hbw2 how2
  have fA00 := (hm.var 0 rfl).c0
  have fA01 := (hm.var 0 rfl).c1
  have HM := Lib.hid hm
  clear hm
  go_wp2_with fail
  refine (HSP.out _ _ r3).mono ?_
  rintro e w4 ⟨uw4, rfl, hrow4, hbw4⟩
  have hrw4 := hrow4.res LBD.out
  clear hrow4
  obtain ⟨aW, nW, hsw4⟩ := hrw4.slice
  subst hsw4
  clear r3
  have hm := (HM.out.pushI hbw4 hrw4)
  clear fA00 fA01
  clear HM hbw4 hrw4
  have fA00 := (hm.var 1 rfl).c0
  have fA01 := (hm.var 1 rfl).c1
  have HM := Lib.hid hm
  clear hm
  go_wp2_with fail
  refine (toSystem_any v0 _ bs0 _ (HSB0.out.below HM.out.below (Nat.le_refl _))).mono ?_
  rintro e w5 ⟨tw5, rfl, how5, hbw5⟩
  have hrw5 := how5.res
  obtain ⟨gw5, capw5, hsw5, _⟩ := id how5
  subst hsw5
  have hm := (HM.out.pushB hbw5 hrw5).pushVar v0 (.slice (some ⟨gw5, 0, none⟩) bs0.length capw5) 31
  clear fA00 fA01
  clear HM hbw5 hrw5 how5
  have fVX00 := (hm.var 0 rfl).c0
  have fVX01 := (hm.var 0 rfl).c1
  have fA00 := (hm.var 3 rfl).c0
  have fA01 := (hm.var 3 rfl).c1
  have HM := Lib.hid hm
  clear hm
  go_wp2_with fail
  refine (HIM.out _ _ ((HM.out.blks 1 rfl).sb HWF0.out HBD0.out)).mono ?_
  rintro e w6 ⟨uw6, rfl, hrow6, hbw6⟩
  have hrw6 := hrow6.res LBD.out
  clear hrow6
  obtain ⟨aG, nG, hsw6⟩ := hrw6.slice
  subst hsw6
  have hm := (HM.out.pushI hbw6 hrw6)
  clear fVX00 fVX01 fA00 fA01
  clear HM hbw6 hrw6
  have fVX00 := (hm.var 1 rfl).c0
  have fVX01 := (hm.var 1 rfl).c1
  have fA00 := (hm.var 4 rfl).c0
  have fA01 := (hm.var 4 rfl).c1
  have HM := Lib.hid hm
  clear hm
  go_wp2_with fail
  refine (eqInt64S_same _ _ L _ ((HM.out.ints 0 rfl).ib LBD.out) ((HM.out.ints 3 rfl).ib LBD.out)).mono ?_
  rintro e w7 ⟨rfl, hbw7⟩
  have hm := HM.out.step (gb_below hbw7)
  clear fVX00 fVX01 fA00 fA01
  clear HM hbw7
  have fVX00 := (hm.var 1 rfl).c0
  have fVX01 := (hm.var 1 rfl).c1
  have fA00 := (hm.var 4 rfl).c0
  have fA01 := (hm.var 4 rfl).c1
  have HM := Lib.hid hm
  clear hm
  go_upto_region 10 with fail
  go_cut [45] (fun sq wx => sq = .bool false ∧ MemOf HM.out wx)
  case first =>
    go_region_with (first | (go_at_call 17; refine (toSystem_any v0 _ bs0 _ ?_).mono ?_; (exact HSB0.out.below HM.out.below.drew (Nat.le_refl _)); rintro e w8 ⟨tw8, rfl, how8, hbw8⟩; have hmx := (HM.out.step (gb_drew1 _)).step (gb_below hbw8); have ec0 := (hmx.var 1 rfl).c0; have ec1 := (hmx.var 1 rfl).c1; have HMX := Lib.hid hmx; clear hmx; have hsbw8 := how8.sb HWF0.out HBD0.out; obtain ⟨gw8, capw8, hsw8, _⟩ := id how8; subst hsw8) | (go_at_call 20; refine (eqSystem_same v0 _ _ bs0 _ ?_ ?_).mono ?_; (exact ((HMX.out.blks 2 rfl).sb HWF0.out HBD0.out)); (exact hsbw8); rintro e w9 ⟨rfl, hbw9⟩))
    all_goals
      go_wp2_with fail
      go_meet
      exact ⟨rfl, HMX.out.step (gb_below hbw9)⟩
  case rest =>
  obtain ⟨rfl, hm⟩ := hcut
  unfold MemOf at hm
  obtain ⟨yc0, rfl⟩ : ∃ W, W = wc := ⟨_, rfl⟩
  clear fVX00 fVX01 fA00 fA01
  clear HM
  have fVX00 := (hm.var 1 rfl).c0
  have fVX01 := (hm.var 1 rfl).c1
  have fA00 := (hm.var 4 rfl).c0
  have fA01 := (hm.var 4 rfl).c1
  have HM := Lib.hid hm
  clear hm
  go_wp2_with fail
  refine (markSystem_any _ _ v0 _ bs0 1 _ (HM.out.blks 2 rfl) HBD0.out (by omega) (by omega)).mono ?_
  rintro e w10 ⟨rfl, hww10, hrw10⟩
  have hm := HM.out.markB 2 rfl hww10 hrw10
  clear fVX00 fVX01 fA00 fA01
  clear HM hww10 hrw10
  have fVX00 := (hm.var 1 rfl).c0
  have fVX01 := (hm.var 1 rfl).c1
  have fA00 := (hm.var 4 rfl).c0
  have fA01 := (hm.var 4 rfl).c1
  have HM := Lib.hid hm
  clear hm
  obtain ⟨kw10, hkw10⟩ : ∃ m, m = 1 + 3 * (bs0.length : Int) := ⟨_, rfl⟩
  rw [← hkw10]
  have h0kw10 : 0 ≤ kw10 := by have := HBD0.out; omega
  have h1kw10 : kw10 ≤ 3300001 := by have := HBD0.out; omega
  clear hkw10
  go_wp2_with fail
  refine (eqInt64S_same _ _ L _ ((HM.out.ints 0 rfl).ib LBD.out) ((HM.out.ints 3 rfl).ib LBD.out)).mono ?_
  rintro e w11 ⟨rfl, hbw11⟩
  have hm := HM.out.step (gb_below hbw11)
  clear fVX00 fVX01 fA00 fA01
  clear HM hbw11
  have fVX00 := (hm.var 1 rfl).c0
  have fVX01 := (hm.var 1 rfl).c1
  have fA00 := (hm.var 4 rfl).c0
  have fA01 := (hm.var 4 rfl).c1
  have HM := Lib.hid hm
  clear hm
  go_wp2_with fail
  refine (markJ _ _ _ L 1 _ (HM.out.ints 0 rfl) LBD.out (by omega) (by omega)).mono ?_
  rintro e w12 ⟨rfl, hww12, hrw12⟩
  have hm := HM.out.markI 0 rfl hww12 hrw12
  clear fVX00 fVX01 fA00 fA01
  clear HM hww12 hrw12
  have fVX00 := (hm.var 1 rfl).c0
  have fVX01 := (hm.var 1 rfl).c1
  have fA00 := (hm.var 4 rfl).c0
  have fA01 := (hm.var 4 rfl).c1
  have HM := Lib.hid hm
  clear hm
  have hheld := fun lo hi W (h : ResI W lo hi (Value.slice aG L.length nG) (markI 1 L.length)) => heldJ lo hi (.slice aG L.length nG) L.length 1 W h LBD.out (by omega) (by omega)
  obtain ⟨m5, hm5⟩ : ∃ m5, m5 = 1 + (L.length : Int) := ⟨_, rfl⟩
  rw [← hm5] at hheld ⊢
  have HHELD := Lib.hid hheld
  have m50 : 0 ≤ m5 := by omega
  have hn5 : (m5 != m5) = false := by simp
  clear hm5 hheld
  go_wp2_with fail
  refine (HHELD.out _ _ _ (HM.out.ints 0 rfl)).mono ?_
  rintro e w13 ⟨rfl, rfl⟩
  go_wp2_with fail
  refine (toSystem_any v0 _ bs0 _ (HSB0.out.below HM.out.below (Nat.le_refl _))).mono ?_
  rintro e w14 ⟨tw14, rfl, how14, hbw14⟩
  have r15 := how14.sb HWF0.out HBD0.out
  obtain ⟨gw14, capw14, hsw14, _⟩ := id how14
  subst hsw14
  have hm := HM.out.step (gb_below hbw14)
  clear fVX00 fVX01 fA00 fA01
  clear HM hbw14 how14
  have fVX00 := (hm.var 1 rfl).c0
  have fVX01 := (hm.var 1 rfl).c1
  have fA00 := (hm.var 4 rfl).c0
  have fA01 := (hm.var 4 rfl).c1
  have HM := Lib.hid hm
  clear hm
  go_wp2_with fail
  refine (HIM.out _ _ r15).mono ?_
  rintro e w16 ⟨uw16, rfl, hrow16, hbw16⟩
  have hrw16 := hrow16.res LBD.out
  clear hrow16
  obtain ⟨aH, nH, hsw16⟩ := hrw16.slice
  subst hsw16
  clear r15
  have hm := (HM.out.pushI hbw16 hrw16)
  clear fVX00 fVX01 fA00 fA01
  clear HM hbw16 hrw16
  have fVX00 := (hm.var 2 rfl).c0
  have fVX01 := (hm.var 2 rfl).c1
  have fA00 := (hm.var 5 rfl).c0
  have fA01 := (hm.var 5 rfl).c1
  have HM := Lib.hid hm
  clear hm
  go_wp2_with fail
  refine (eqInt64S_same _ _ L _ ((HM.out.ints 0 rfl).ib LBD.out) ((HM.out.ints 4 rfl).ib LBD.out)).mono ?_
  rintro e w17 ⟨rfl, hbw17⟩
  have hm := HM.out.step (gb_below hbw17)
  clear fVX00 fVX01 fA00 fA01
  clear HM hbw17
  have fVX00 := (hm.var 2 rfl).c0
  have fVX01 := (hm.var 2 rfl).c1
  have fA00 := (hm.var 5 rfl).c0
  have fA01 := (hm.var 5 rfl).c1
  have HM := Lib.hid hm
  clear hm
  go_wp2_with fail
  refine (HHELD.out _ _ _ (HM.out.ints 1 rfl)).mono ?_
  rintro e w18 ⟨rfl, rfl⟩
  go_wp2
  go_ret
  exact RV_of rfl HM.out.below
set_option maxRecDepth 100000 in
theorem FnExactGoesAround_long0 (v0 : Int) (s0 : Value) (bs0 : List Blk) (w : World) (h0 : InB w s0 bs0)  (hl : ¬ bs0.length ≤ 1048576) : Calls Try.prog 12 #[.agg #[.int .i64 v0, s0]] w (RV (.bool true) w) := by
  have hsl0 := h0.slice
  have hbd0 := h0.2.1
  have hsz0 := szSystem_any v0 s0 bs0.length hsl0 (by omega) (1048576) (by omega) (by omega)
  rw [if_pos (by omega)] at hsz0
  have HSZ0 := Lib.hid hsz0
  clear hl h0 hsz0 hbd0
  obtain ⟨a0, c0, rfl⟩ := hsl0
  go_enter Try.func12, Try.ntmps12
  go_wp2_with fail
  refine (HSZ0.out _).mono ?_
  rintro e y0 ⟨rfl, hy0⟩
  go_wp2
  go_ret
  exact RV_of rfl (((Below.refl _ _).alloc (by simp <;> omega) _).trans (hy0.mono (by first | (simp <;> omega) | (have := ((Below.refl _ _).alloc (by simp <;> omega) _).size; omega))))
theorem FnExactGoesAround_any (v0 : Int) (s0 : Value) (bs0 : List Blk) (w : World) (h0 : InB w s0 bs0) : Calls Try.prog 12 #[.agg #[.int .i64 v0, s0]] w (RV (.bool true) w) := by
  by_cases hs0 : bs0.length ≤ 1048576
  case neg => exact FnExactGoesAround_long0 v0 s0 bs0 w h0   hs0
  exact FnExactGoesAround_main v0 s0 bs0 w h0 hs0 
end Go.Proofs.Ytoicdfdfajfopaa

namespace Go.Proofs.Ytoicdfdfajfopaa
set_option maxRecDepth 100000 in
noncomputable def iniP : { L : List Char // Try.prog.initOrder = String.ofList L } := ⟨_, by unfold Try.prog; rfl⟩
theorem iniL : Try.prog.initOrder.toList = iniP.1 := (congrArg String.toList iniP.2).trans String.toList_ofList
theorem words_cons (c : Char) (r : List Char) (h : c ≠ Char.ofNat 32) : wordsSigns (c :: r) = match wordsSigns r with | w :: ws => (c :: w) :: ws | [] => [[c]] := by
  rw [wordsSigns]
  all_goals first | rfl | exact h | (intro e; exact h e)
theorem words_word : ∀ (a b : List Char), (a.all fun c => c != Char.ofNat 32) = true → wordsSigns (a ++ Char.ofNat 32 :: b) = a :: wordsSigns b
  | [], b, _ => rfl
  | c :: a, b, h => by
    simp only [List.all_cons, Bool.and_eq_true, bne_iff_ne, ne_eq] at h
    rw [List.cons_append, words_cons _ _ h.1, words_word a b (by simpa using h.2)]
set_option maxRecDepth 100000 in
theorem split1 : iniP.1 = iniP.1.take 7 ++ Char.ofNat 32 :: iniP.1.drop 8 := by kernel_rfl
set_option maxRecDepth 100000 in
theorem split2 : iniP.1.drop 8 = (iniP.1.drop 8).take 64 ++ Char.ofNat 32 :: iniP.1.drop 73 := by kernel_rfl
set_option maxRecDepth 100000 in
theorem split3 : iniP.1.drop 73 = (iniP.1.drop 73).take 3 ++ Char.ofNat 32 :: iniP.1.drop 77 := by kernel_rfl
theorem isCut : (iniP.1.drop 73).take 3 = "cut".toList := by kernel_rfl
set_option maxRecDepth 100000 in
theorem isHead : ((iniP.1.take 7 == "harness".toList || iniP.1.take 7 == "ownmain".toList) && isSumSigns ((iniP.1.drop 8).take 64)) = true := by kernel_rfl
theorem wordsL : wordsSigns iniP.1 = iniP.1.take 7 :: (iniP.1.drop 8).take 64 :: "cut".toList :: wordsSigns (iniP.1.drop 77) := by
  rw [← isCut]
  conv => lhs; rw [split1]
  rw [words_word _ _ (by kernel_rfl)]
  conv => lhs; rw [split2]
  rw [words_word _ _ (by kernel_rfl)]
  conv => lhs; rw [split3]
  rw [words_word _ _ (by kernel_rfl)]
theorem behindL : behindMainWord (wordsSigns Try.prog.initOrder.toList) = "cut".toList :: wordsSigns (iniP.1.drop 77) := by
  rw [iniL, wordsL]
  unfold behindMainWord
  simp only [isHead, if_true]
theorem stripL (ws : List (List Char)) : stripLifts liftWords ("cut".toList :: ws) = ([], "cut".toList :: ws) := by kernel_rfl
section
variable (P : Program) (ws : List (List Char)) (h : behindMainWord (wordsSigns P.initOrder.toList) = "cut".toList :: ws)
include h
theorem head_of : P.headLifts = [] := by
  unfold Program.headLifts
  rw [h]
  simp only [stripL]
  kernel_rfl
theorem make_of : P.make = some .cut := by
  unfold Program.make
  rw [h, head_of P ws h]
  kernel_rfl
theorem lifts_of : P.liftsFinal = false := by
  unfold Program.liftsFinal
  rw [h, head_of P ws h]
  kernel_rfl
theorem enter_of (h1 : P.laysLater = false) (h2 : P.bearsReflect = false) (h3 : P.doorFits [] = true) : P.mayEnter = true := by
  unfold Program.mayEnter
  rw [h]
  simp only [stripL]
  rw [h1, h2, h3]
  kernel_rfl
end
theorem mayE : Try.pinned.checked.prog.mayEnter = true := enter_of _ _ behindL (by kernel_rfl) (by kernel_rfl) (by kernel_rfl)
theorem liftsF : Try.pinned.checked.prog.liftsFinal = false := lifts_of _ _ behindL
theorem makeF : Try.pinned.checked.prog.make = some .cut := make_of _ _ behindL
theorem both {a b : Bool} (h : a = true) (k : b = true) : (a && b) = true := by rw [h, k]; rfl
end Go.Proofs.Ytoicdfdfajfopaa

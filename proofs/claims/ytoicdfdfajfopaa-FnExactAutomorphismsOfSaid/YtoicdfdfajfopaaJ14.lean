
/- The program's iterator over renumberings, for callers whose rounds own memory of their own. slices.Repeat of a list of one number. slices.Repeat of a list of one number: the walk. Orbits, plain: the program's (by the first number of each) and the model's (by what is met) are the same. -/
import Derived.Test.YtoicdfdfajfopaaJ13
import Derived.Laws.CopyOwn
import Derived.Deep.RegionLaw
import Derived.Deep.Cut
import Derived.Deep.DeepCutAuto
namespace Go.Proofs.Ytoicdfdfajfopaa
open Go.RowKit Go.Maps Go.Shelf
attribute [local go_sem] Oper.semAt_some
/-- What lies behind a renumbering that comes. -/
def RenG (n : Nat) (T1 T2 : Nat → Nat → Nat) (x : List (Option Nat)) (k : Nat) (E : Nat → Prop) (v : Value) (W : World) : Prop := OwnE W E k v (encM x) ∧ ∃ f, IsoR n T1 T2 f ∧ x = lisR n f
/-- No mark lies in E. -/
def MkE (E : Nat → Prop) (ds : List Deferred) : Prop := ∀ d ∈ ds, ∀ D, d = { target := .collected D, args := #[] } → ¬ E D
theorem Marks.kept3 {E : Nat → Prop} {n0 : Nat} {W W' : World} : ∀ {ds : List Deferred} {n1 : Nat}, Marks n0 W n1 ds → MkE E ds → (∀ D, ¬ E D → n0 ≤ D → D < n1 → W.heap[D]? = some (.deferred (some [])) → W'.heap[D]? = some (.deferred (some []))) → Marks n0 W' n1 ds
  | [], _, _, _, _ => trivial
  | _ :: _, _, ⟨D, e, h0, h1, hD, hr⟩, hm, k => ⟨D, e, h0, h1, k D (hm _ (by simp) D e) h0 h1 hD, hr.kept3 (fun d hd D' e' => hm d (by simp [hd]) D' e') fun D' hE h0' h' => k D' hE h0' (by omega)⟩
theorem Marks.lt {n0 : Nat} {W : World} : ∀ {ds : List Deferred} {n1 : Nat}, Marks n0 W n1 ds → ∀ d ∈ ds, ∀ D, d = { target := .collected D, args := #[] } → D < n1
  | [], _, _, d, hd, _, _ => by cases hd
  | _ :: _, _, ⟨D, e, h0, h1, hD, hr⟩, d, hd, D', e' => by
    rcases List.mem_cons.1 hd with rfl | hd
    · rw [e] at e'
      have : D = D' := by simpa using e'
      omega
    · have := hr.lt d hd D' e'
      omega
theorem OwnE.fewer {W : World} {E E' : Nat → Prop} {b : Nat} {v : Value} {zs : List Int} (h : OwnE W E b v zs) (he : ∀ i, E' i → E i) : OwnE W E' b v zs := ⟨h.1, fun r e hr => h.2 r e (he _ hr)⟩
theorem OwnE.more {W W' : World} {E : Nat → Prop} {b : Nat} {v : Value} {zs : List Int} (h : OwnE W E b v zs) (hk : CK E W W') : OwnE W' (growE E W.heap.size W') b v zs := by
  refine ⟨(h.ck hk).1, fun r e hr => ?_⟩
  rcases hr with hr | hr
  · exact h.2 r e hr
  · rcases h.1.2 with q | ⟨g, cap, cur, hv, _, hcur, _⟩
    · rw [q.1] at e; simp [Value.ownBlock] at e
    · rw [hv] at e
      obtain rfl : g = r := by simpa [Value.ownBlock] using e
      have := (Array.getElem?_eq_some_iff.1 hcur).1
      omega
theorem TbE.more {W W' : World} {E : Nat → Prop} {Bx n : Nat} {T : Nat → Nat → Nat} (h : TbE W E Bx n T) (hk : CK E W W') (hn : 1 < n) : TbE W' (growE E W.heap.size W') Bx n T := by
  obtain ⟨G, cap, gs, cs, h1, h2, h3, h4, h5, h6⟩ := h
  have lt : ∀ {g o : Nat} {u : Value}, W.cell? ⟨g, o, none⟩ = some u → ¬ E g → ¬ growE E W.heap.size W' g := by
    intro g o u hc he hg
    have hlt : g < W.heap.size := block_lt_of_cell hc
    rcases hg with hg | hg
    · exact he hg
    · omega
  refine ⟨G, cap, gs, cs, lt h4 h1, lt (h5 0 (by omega)) h2, fun a ha => ?_, hk.cell h4 h1, fun a ha => hk.cell (h5 a ha) h2, fun a c ha hc hne => hk.cell (h6 a c ha hc hne) (h3 a ha)⟩
  by_cases h0 : a = 0
  · exact lt (h6 a 1 ha (by omega) (by omega)) (h3 a ha)
  · exact lt (h6 a 0 ha (by omega) h0) (h3 a ha)
theorem RenS.more {E : Nat → Prop} {n b Bi Bt Bf Yb l : Nat} {v : Value} {T1 T2 : Nat → Nat → Nat} {m : List (Option Nat)} {X Y : World} (h : RenS E n b Bi Bt Bf Yb l v T1 T2 m X) (k : CK E X Y) (hn : 1 < n) : RenS (growE E X.heap.size Y) n b Bi Bt Bf Yb l v T1 T2 m Y := by
  have hg : ∀ {B : Nat} {t : TypeId} {u : Value}, Boxed X B t u → ¬ E B → ¬ growE E X.heap.size Y B := fun hb he hg => by
    have := hb.lt
    rcases hg with hg | hg
    · exact he hg
    · omega
  exact ⟨⟨k.boxed h.1.1 h.1.2, hg h.1.1 h.1.2⟩, ⟨k.boxed h.2.1.1 h.2.1.2, hg h.2.1.1 h.2.1.2⟩, h.2.2.1.more k, h.2.2.2.1.more k hn, h.2.2.2.2.more k hn⟩
set_option maxRecDepth 100000 in
set_option maxHeartbeats 2000000 in
theorem ren_leafD (n : Nat) (E : Nat → Prop) (T1 T2 : Nat → Nat → Nat) (m : List (Option Nat)) (hC : Cl n T1 T2 m []) (hn3 : 0 < n) (hn : n ≤ 15) (hf : m.findIdx? Option.isNone = none) (b Bi : Nat) (pt pf : Value) (v : Value) (W : World) (hB : Boxed W Bi 25 v) (hO : OwnE W E b v (encM m)) (hb : b ≤ W.heap.size) :
    SeqD Fence.wide 9 Try.prog 121 #[.pointer (some ⟨Bi, 0, none⟩), pt, pf] (RenG n T1 T2) E (fun xs => xs = [m]) (fun pre => pre <+: [m]) 1 b W := fun l J Jx hJ _ hY h0 => by
  have hro : Fence.wide.round = none := rfl
  have hm := hC.len
  have hiso : ∃ f, IsoR n T1 T2 f ∧ m = lisR n f := by
    obtain ⟨f, h1, _, h2⟩ := (all_known hC (find_none hf) m).1 (by simp)
    exact ⟨f, h1, h2⟩
  have hlen : (encM m).length = n := by rw [encM_len, hm]
  obtain ⟨g, cap, rfl⟩ := hO.1.someR (by rw [hlen]; exact hn3)
  have hpos := posL_enc m 0
  rw [hf] at hpos
  have hIx : ∀ W' : World, OwnJ W' b (.slice (some ⟨g, 0, none⟩) (encM m).length cap) (encM m) → CallsIn Fence.wide 8 Try.prog 122 #[.slice (some ⟨g, 0, none⟩) (encM m).length cap, .int .i64 (-1)] W' fun e w' => e = .returned (.int .i64 (-1)) ∧ W' = w' := fun W' h' => by
    obtain ⟨b', off', cap', e1, _, e3⟩ := h'.ia (by rw [hlen]; omega)
    cases e1
    have := callsIn_wide (n := 8).2 (IndexP_any g 0 cap (encM m) (-1) W' e3 (by rw [hlen]; omega))
    rw [hpos] at this
    exact this
  have hJ1 := (hJ [] b E).alloc (s := ()) (.cells #[.func (.yield l) #[] #[]] 92) h0
  have hO1 : OwnE (W.alloc (.cells #[.func (.yield l) #[] #[]] 92)) E b _ (encM m) := ⟨hO.1.alloc _, hO.2⟩
  have HI := Lib.hid (hIx _ hO1.1)
  obtain ⟨fn, tmps, assign, body, hy, hR⟩ := hY [] m b E _ _ hJ1 ⟨hO1, hiso⟩ (by simp)
  have hc := hB.alloc (.cells #[.func (.yield l) #[] #[]] 92)
  have hc0 := hc.cell
  have hR2 := Lib.hid hR
  rw [hlen] at hc0 hy HI
  clear hR hIx hO hO1 hB hc hlen hm hiso hC
  refine callsIn_of_wp Try.func121 rfl trivial ?_ hro
  simp only [Try.ntmps121, List.size_toArray, List.length_cons, List.length_nil, Nat.reduceAdd, Nat.reduceSub, Array.replicate_succ, Array.replicate_zero, List.push_toArray, List.append_toArray, List.nil_append, List.cons_append]
  gi_wp2
  refine wpIn_wide.2 ?_
  go_step3
  refine wpIn_wide (n := 9).1 ?_
  gi_wp2_with (first
    | (refine ⟨trivial, ?_⟩; gi_at_call 122; refine HI.out.mono ?_; rintro e w1 ⟨rfl, rfl⟩))
  refine hR2.out.mono ?_
  rintro e W3 ⟨_, ⟨rfl, hJ3⟩ | ⟨rfl, hJ3⟩⟩
  · gi_wp2
    rw [Exit.noGoto_ret]
    refine bodyPost_ret (results_none rfl _ _ _) rfl ?_
    exact ⟨⟨_, rfl⟩, .inl ⟨_, _, _, rfl, hJ3⟩⟩
  · gi_wp2
    rw [Exit.noGoto_ret]
    refine bodyPost_ret (results_none rfl _ _ _) rfl ?_
    exact ⟨⟨_, rfl⟩, .inr ⟨_, _, _, List.prefix_refl _, hJ3⟩⟩
set_option maxRecDepth 1000000 in
def WI1D (n b Bi Bt Bf Yb l p H capH d : Nat) (v : Value) (T1 T2 : Nat → Nat → Nat) (m : List (Option Nat)) (n0 : Nat) (J : List (List (Option Nat)) → Nat → (Nat → Prop) → World → Prop) (a' : Act) (w' : World) : Prop :=
  ∃ (q k0 : Nat) (E : Nat → Prop) (ds : List Deferred) (u6 u7 u8 u9 u10 u11 u12 u13 u24 u25 u26 u27 u28 u29 u30 u31 u32 u33 u34 u35 u36 u37 u38 u39 u40 u41 u42 u43 u44 u45 u46 u47 u48 u49 u50 u51 u52 u53 u54 u55 u56 u57 u58 u59 u60 u61 u62 u63 u64 u65 u66 u67 u68 u69 u70 u71 u72 u73 u74 u75 u76 u77 u78 u79 u80 u81 u82 u83 u84 u85 u86 u87 u88 u89 u90 u91 u92 u93 u94 u95 u96 u97 u98 u99 u100 u101 u102 u103 u104 u105 u106 u107 u108 u109 u110 u111 u112 u113 u114 u115 u116 u117 u118 u119 u120 u121 u122 : Value), q ≤ n ∧ k0 ≤ w'.heap.size ∧ J (doneR n T1 T2 d m p q) k0 E w' ∧ RenS E n b Bi Bt Bf Yb l v T1 T2 m w' ∧ n0 ≤ w'.heap.size ∧ Marks n0 w' w'.heap.size ds ∧ (∀ i, E i → i < w'.heap.size) ∧ MkE E ds ∧ a' = { tmps := #[.func (.yield l) #[] #[], .pointer (some ⟨Bi, 0, none⟩), .pointer (some ⟨Bt, 0, none⟩), .pointer (some ⟨Bf, 0, none⟩), .pointer (some ⟨Yb, 0, none⟩), .int .i64 (p : Int), u6, u7, u8, u9, u10, u11, u12, u13, v, .int .i64 (p : Int), .int .i64 (p : Int), .bool false, undef, undef, undef, .slice (some ⟨H, 0, none⟩) n capH, .int .i64 (n : Int), .int .i64 (q : Int), u24, u25, u26, u27, u28, u29, u30, u31, u32, u33, u34, u35, u36, u37, u38, u39, u40, u41, u42, u43, u44, u45, u46, u47, u48, u49, u50, u51, u52, u53, u54, u55, u56, u57, u58, u59, u60, u61, u62, u63, u64, u65, u66, u67, u68, u69, u70, u71, u72, u73, u74, u75, u76, u77, u78, u79, u80, u81, u82, u83, u84, u85, u86, u87, u88, u89, u90, u91, u92, u93, u94, u95, u96, u97, u98, u99, u100, u101, u102, u103, u104, u105, u106, u107, u108, u109, u110, u111, u112, u113, u114, u115, u116, u117, u118, u119, u120, u121, u122], defers := ds }
set_option maxRecDepth 1000000 in
set_option maxHeartbeats 8000000 in
theorem ren_nodeD (n : Nat) (T1 T2 : Nat → Nat → Nat) (hT1 : Thd n T1) (hT2 : Thd n T2) (hn1 : 1 < n) (hn : n ≤ 15) (d : Nat)
    (ih : ∀ (E : Nat → Prop) (m : List (Option Nat)) (b Bi Bt Bf : Nat) (v : Value) (W : World), Cl n T1 T2 m [] → unk m ≤ d → Boxed W Bi 25 v → ¬ E Bi → OwnE W E b v (encM m) → TbE W E Bf n T1 → TbE W E Bt n T2 → (∀ i, E i → i < W.heap.size) → b ≤ W.heap.size →
      SeqD Fence.wide 9 Try.prog 121 #[.pointer (some ⟨Bi, 0, none⟩), .pointer (some ⟨Bt, 0, none⟩), .pointer (some ⟨Bf, 0, none⟩)] (RenG n T1 T2) E (fun xs => xs = rens n T1 T2 d m) (fun pre => pre <+: rens n T1 T2 d m) (rens n T1 T2 d m).length b W)
    (E : Nat → Prop) (m : List (Option Nat)) (p : Nat) (hfi : m.findIdx? Option.isNone = some p) (hC : Cl n T1 T2 m []) (hu : unk m ≤ d + 1) (b Bi Bt Bf : Nat) (v : Value) (W : World) (hX : Boxed W Bi 25 v) (hEi : ¬ E Bi) (hO : OwnE W E b v (encM m)) (hF : TbE W E Bf n T1) (hT : TbE W E Bt n T2) (hE : ∀ i, E i → i < W.heap.size) (hb : b ≤ W.heap.size) :
    SeqD Fence.wide 9 Try.prog 121 #[.pointer (some ⟨Bi, 0, none⟩), .pointer (some ⟨Bt, 0, none⟩), .pointer (some ⟨Bf, 0, none⟩)] (RenG n T1 T2) E (fun xs => xs = rens n T1 T2 (d + 1) m) (fun pre => pre <+: rens n T1 T2 (d + 1) m) (rens n T1 T2 (d + 1) m).length b W := by
  rw [rens_done hfi]
  intro l J Jx hJ hJx hY h0
  have hro : Fence.wide.round = none := rfl
  obtain ⟨hp, hpn, -⟩ := find_some hfi
  rw [hC.len] at hp
  have hlen : (encM m).length = n := by rw [encM_len, hC.len]
  obtain ⟨g, cap, rfl⟩ := hO.1.someR (by rw [hlen]; omega)
  have hpos := posL_enc m 0
  rw [hfi] at hpos
  dsimp only at hpos
  rw [Nat.zero_add] at hpos
  have hIx : ∀ W' : World, OwnJ W' b (.slice (some ⟨g, 0, none⟩) (encM m).length cap) (encM m) → CallsIn Fence.wide 8 Try.prog 122 #[.slice (some ⟨g, 0, none⟩) (encM m).length cap, .int .i64 (-1)] W' fun e w' => e = .returned (.int .i64 (p : Int)) ∧ W' = w' := fun W' h' => by
    obtain ⟨b', off', cap', e1, _, e3⟩ := h'.ia (by rw [hlen]; omega)
    cases e1
    have := callsIn_wide (n := 8).2 (IndexP_any g 0 cap (encM m) (-1) W' e3 (by rw [hlen]; omega))
    rw [hpos] at this
    exact this
  have hp0 : decide ((p : Int) < 0) = false := by simp
  obtain ⟨W1, hW1⟩ : ∃ W1, W1 = W.alloc (.cells #[.func (.yield l) #[] #[]] 92) := ⟨_, rfl⟩
  have hB1 : Below W.heap.size W W1 := by rw [hW1]; exact (Below.refl _ _).alloc (Nat.le_refl _) _
  have hz1 : W1.heap.size = W.heap.size + 1 := by rw [hW1]; simp
  have hJ1 : J [] b E W1 := ownFrom_below' (hJ [] b E) hB1 h0
  have hk1 : CK E W W1 := CK.of_below hB1
  have hYb : Boxed W1 W.heap.size 92 (.func (.yield l) #[] #[]) := by rw [hW1]; exact Boxed.new W _ _
  have hR1 : RenS E n b Bi Bt Bf W.heap.size l (.slice (some ⟨g, 0, none⟩) (encM m).length cap) T1 T2 m W1 := ⟨⟨hYb, fun e => by have := hE _ e; omega⟩, ⟨hk1.boxed hX hEi, hEi⟩, hO.ck hk1, hF.ck hk1, hT.ck hk1⟩
  have HI := Lib.hid (hIx W1 hR1.2.2.1.1)
  have hc1 := (hR1.2.1.1).cell
  obtain ⟨H, capH, hTB⟩ : ∃ H capH, W1.cell? ⟨Bt, 0, none⟩ = some (.slice (some ⟨H, 0, none⟩) n capH) := by
    obtain ⟨G, c, _, _, _, _, _, h4, _⟩ := hR1.2.2.2.2
    exact ⟨G, c, h4⟩
  have HY := Lib.hid hY
  have HIH := Lib.hid ih
  have HJ := Lib.hid hJ
  have HJx := Lib.hid hJx
  clear hIx hO hX hF hT hY ih h0 hJ hJx hk1 hYb hB1 hpos hfi
  rw [hlen] at HI hc1 hR1
  rw [hW1] at HI hc1 hTB
  clear hlen
  refine callsIn_of_wp_marks Try.func121 rfl trivial ?_ hro
  simp only [Try.ntmps121, List.size_toArray, List.length_cons, List.length_nil, Nat.reduceAdd, Nat.reduceSub, Array.replicate_succ, Array.replicate_zero, List.push_toArray, List.append_toArray, List.nil_append, List.cons_append]
  gi_wp2
  refine wpIn_wide.2 ?_
  go_step3
  refine wpIn_wide (n := 9).1 ?_
  gi_wp2_with (first
    | (refine ⟨trivial, ?_⟩; gi_at_call 122; refine HI.out.mono ?_; rintro e w1 ⟨rfl, rfl⟩))
  refine wpIn_label ?_
  gi_wp2
  clear HI hc1 hp0 hTB
  rw [← hW1]
  refine wpIn_loop (fun a' w' => WI1D n b Bi Bt Bf W.heap.size l p H capH d (.slice (some ⟨g, 0, none⟩) n cap) T1 T2 m W.heap.size J a' w') (fun a' _ => n - (intOf (a'.tmps.getD 23 undef)).toNat) ?_ ?_
  · exact ⟨0, b, E, [], _, _, _, _, _, _, _, _, _, _, _, _, _, _, _, _, _, _, _, _, _, _, _, _, _, _, _, _, _, _, _, _, _, _, _, _, _, _, _, _, _, _, _, _, _, _, _, _, _, _, _, _, _, _, _, _, _, _, _, _, _, _, _, _, _, _, _, _, _, _, _, _, _, _, _, _, _, _, _, _, _, _, _, _, _, _, _, _, _, _, _, _, _, _, _, _, _, _, _, _, _, _, _, _, _, _, _, Nat.zero_le _, by omega, hJ1, hR1, by omega, trivial, fun i e => by have := hE i e; omega, fun d hd => by simp at hd, rfl⟩
  clear hJ1 hR1 hE
  intro a' wr hI
  obtain ⟨q, k0, E, ds, hI⟩ := hI
  obtain ⟨u6, hI⟩ := hI
  obtain ⟨u7, hI⟩ := hI
  obtain ⟨u8, hI⟩ := hI
  obtain ⟨u9, hI⟩ := hI
  obtain ⟨u10, hI⟩ := hI
  obtain ⟨u11, hI⟩ := hI
  obtain ⟨u12, hI⟩ := hI
  obtain ⟨u13, hI⟩ := hI
  obtain ⟨u24, hI⟩ := hI
  obtain ⟨u25, hI⟩ := hI
  obtain ⟨u26, hI⟩ := hI
  obtain ⟨u27, hI⟩ := hI
  obtain ⟨u28, hI⟩ := hI
  obtain ⟨u29, hI⟩ := hI
  obtain ⟨u30, hI⟩ := hI
  obtain ⟨u31, hI⟩ := hI
  obtain ⟨u32, hI⟩ := hI
  obtain ⟨u33, hI⟩ := hI
  obtain ⟨u34, hI⟩ := hI
  obtain ⟨u35, hI⟩ := hI
  obtain ⟨u36, hI⟩ := hI
  obtain ⟨u37, hI⟩ := hI
  obtain ⟨u38, hI⟩ := hI
  obtain ⟨u39, hI⟩ := hI
  obtain ⟨u40, hI⟩ := hI
  obtain ⟨u41, hI⟩ := hI
  obtain ⟨u42, hI⟩ := hI
  obtain ⟨u43, hI⟩ := hI
  obtain ⟨u44, hI⟩ := hI
  obtain ⟨u45, hI⟩ := hI
  obtain ⟨u46, hI⟩ := hI
  obtain ⟨u47, hI⟩ := hI
  obtain ⟨u48, hI⟩ := hI
  obtain ⟨u49, hI⟩ := hI
  obtain ⟨u50, hI⟩ := hI
  obtain ⟨u51, hI⟩ := hI
  obtain ⟨u52, hI⟩ := hI
  obtain ⟨u53, hI⟩ := hI
  obtain ⟨u54, hI⟩ := hI
  obtain ⟨u55, hI⟩ := hI
  obtain ⟨u56, hI⟩ := hI
  obtain ⟨u57, hI⟩ := hI
  obtain ⟨u58, hI⟩ := hI
  obtain ⟨u59, hI⟩ := hI
  obtain ⟨u60, hI⟩ := hI
  obtain ⟨u61, hI⟩ := hI
  obtain ⟨u62, hI⟩ := hI
  obtain ⟨u63, hI⟩ := hI
  obtain ⟨u64, hI⟩ := hI
  obtain ⟨u65, hI⟩ := hI
  obtain ⟨u66, hI⟩ := hI
  obtain ⟨u67, hI⟩ := hI
  obtain ⟨u68, hI⟩ := hI
  obtain ⟨u69, hI⟩ := hI
  obtain ⟨u70, hI⟩ := hI
  obtain ⟨u71, hI⟩ := hI
  obtain ⟨u72, hI⟩ := hI
  obtain ⟨u73, hI⟩ := hI
  obtain ⟨u74, hI⟩ := hI
  obtain ⟨u75, hI⟩ := hI
  obtain ⟨u76, hI⟩ := hI
  obtain ⟨u77, hI⟩ := hI
  obtain ⟨u78, hI⟩ := hI
  obtain ⟨u79, hI⟩ := hI
  obtain ⟨u80, hI⟩ := hI
  obtain ⟨u81, hI⟩ := hI
  obtain ⟨u82, hI⟩ := hI
  obtain ⟨u83, hI⟩ := hI
  obtain ⟨u84, hI⟩ := hI
  obtain ⟨u85, hI⟩ := hI
  obtain ⟨u86, hI⟩ := hI
  obtain ⟨u87, hI⟩ := hI
  obtain ⟨u88, hI⟩ := hI
  obtain ⟨u89, hI⟩ := hI
  obtain ⟨u90, hI⟩ := hI
  obtain ⟨u91, hI⟩ := hI
  obtain ⟨u92, hI⟩ := hI
  obtain ⟨u93, hI⟩ := hI
  obtain ⟨u94, hI⟩ := hI
  obtain ⟨u95, hI⟩ := hI
  obtain ⟨u96, hI⟩ := hI
  obtain ⟨u97, hI⟩ := hI
  obtain ⟨u98, hI⟩ := hI
  obtain ⟨u99, hI⟩ := hI
  obtain ⟨u100, hI⟩ := hI
  obtain ⟨u101, hI⟩ := hI
  obtain ⟨u102, hI⟩ := hI
  obtain ⟨u103, hI⟩ := hI
  obtain ⟨u104, hI⟩ := hI
  obtain ⟨u105, hI⟩ := hI
  obtain ⟨u106, hI⟩ := hI
  obtain ⟨u107, hI⟩ := hI
  obtain ⟨u108, hI⟩ := hI
  obtain ⟨u109, hI⟩ := hI
  obtain ⟨u110, hI⟩ := hI
  obtain ⟨u111, hI⟩ := hI
  obtain ⟨u112, hI⟩ := hI
  obtain ⟨u113, hI⟩ := hI
  obtain ⟨u114, hI⟩ := hI
  obtain ⟨u115, hI⟩ := hI
  obtain ⟨u116, hI⟩ := hI
  obtain ⟨u117, hI⟩ := hI
  obtain ⟨u118, hI⟩ := hI
  obtain ⟨u119, hI⟩ := hI
  obtain ⟨u120, hI⟩ := hI
  obtain ⟨u121, hI⟩ := hI
  obtain ⟨u122, hI⟩ := hI
  obtain ⟨hq, hk0, hJr, hR, hzr, hM, hEr, hmk, ha⟩ := hI
  dsimp only at ha
  subst ha
  by_cases hqn : q < n
  · have hOr := hR.2.2.1
    have hzm : (encM m).length = n := by rw [encM_len, hC.len]
    have hcl := cloneR_any _ (encM m) wr (hOr.1.ia (by omega)) (by omega)
    rw [hzm] at hcl
    have HCL := Lib.hid (callsIn_wide (n := 8).2 hcl)
    have hxc := hR.2.1.1.cell
    clear hcl hOr hzm
    gi_wp2_with (first
      | (refine ⟨trivial, ?_⟩; gi_at_call 123; refine HCL.out.mono ?_; rintro e w2 ⟨g1, cap1, rfl, hO2, hb2⟩))
    obtain ⟨w3, hw3⟩ : ∃ w3, w3 = w2.alloc (.cells #[.int .i64 (p : Int), .int .i64 (q : Int)] 124) := ⟨_, rfl⟩
    have hb3 : Below wr.heap.size wr w3 := hb2.trans (by rw [hw3]; exact (Below.refl _ _).alloc hb2.size _)
    have hQ3 : QuP w3 w2.heap.size (.slice (some ⟨w2.heap.size, 0, none⟩) 1 1) (castP [(p, q)]) := by rw [hw3]; exact QuP.one w2 (Nat.le_refl _) p q
    have hO3 : OwnJ w3 wr.heap.size (.slice (some ⟨g1, 0, none⟩) n cap1) (encM m) := by rw [hw3]; exact hO2.alloc _
    have hg1a := (hO2.atR (i := 0) (by rw [encM_len, hC.len]; omega)).2.1
    have hg1b := (hO2.atR (i := 0) (by rw [encM_len, hC.len]; omega)).2.2.1
    have hz3 : w2.heap.size ≤ w3.heap.size := by rw [hw3]; simp
    have hmu : mu n m [(p, q)] ≤ 10000 := by
      have h1 : unk m ≤ n := by rw [← hC.len]; exact List.countP_le_length
      have h2 : unk m * (n + 1) ≤ 15 * 16 := Nat.mul_le_mul (by omega) (by omega)
      unfold mu
      simp
      omega
    have hT3 : TbR w3 wr.heap.size Bt n T2 := (hR.2.2.2.2.tbR hn1).below hb3 (Nat.le_refl _)
    have hF3 : TbR w3 wr.heap.size Bf n T1 := (hR.2.2.2.1.tbR hn1).below hb3 (Nat.le_refl _)
    rw [← hw3]
    clear hw3 hO2 HCL hxc
    refine wpIn_wide.2 (wp_calm ?_)
    refine ren2_loop (m := m) (op := [(p, q)]) (lo := wr.heap.size) (q0 := w2.heap.size) hn hT1 hT2 (hC.more _) (opl_one hp hqn) hmu hF3 hT3 hg1b hO3 hb2.size hz3 _ _ _ _ _ _ _ _ _ _ _ _ _ _ _ _ _ _ _ _ _ _ _ _ _ _ _ _ _ _ _ _ _ _ _ ?hq ?hfail ?hdone _ _ _ _ _ _ _ _ _ _ _ _ _ _ _ _ _ _ _ _ _ _ _ _ _ _ _ _ _ _ _ _ _ _ _ _ _ _ _ _ _ _ _ _ _ _ _ _ _ _ _ _ _ _ _ _ _ _ _ _ _ _ _ _ _ _ _ _ _ _ _ _ _ _ _ _ _ _ _ _ _ _ _ _ _ _ hQ3
    case hq => exact fun c a a' w h => absurd rfl (h.1 c)
    case hfail =>
      intro hno a' w' hI
      obtain ⟨x8, hI⟩ := hI
      obtain ⟨x9, hI⟩ := hI
      obtain ⟨x10, hI⟩ := hI
      obtain ⟨x11, hI⟩ := hI
      obtain ⟨x12, hI⟩ := hI
      obtain ⟨x32, hI⟩ := hI
      obtain ⟨x33, hI⟩ := hI
      obtain ⟨x34, hI⟩ := hI
      obtain ⟨x35, hI⟩ := hI
      obtain ⟨x36, hI⟩ := hI
      obtain ⟨x37, hI⟩ := hI
      obtain ⟨x38, hI⟩ := hI
      obtain ⟨x39, hI⟩ := hI
      obtain ⟨x40, hI⟩ := hI
      obtain ⟨x41, hI⟩ := hI
      obtain ⟨x42, hI⟩ := hI
      obtain ⟨x43, hI⟩ := hI
      obtain ⟨x44, hI⟩ := hI
      obtain ⟨x45, hI⟩ := hI
      obtain ⟨x46, hI⟩ := hI
      obtain ⟨x47, hI⟩ := hI
      obtain ⟨x48, hI⟩ := hI
      obtain ⟨x49, hI⟩ := hI
      obtain ⟨x50, hI⟩ := hI
      obtain ⟨x51, hI⟩ := hI
      obtain ⟨x52, hI⟩ := hI
      obtain ⟨x53, hI⟩ := hI
      obtain ⟨x54, hI⟩ := hI
      obtain ⟨x55, hI⟩ := hI
      obtain ⟨x56, hI⟩ := hI
      obtain ⟨x57, hI⟩ := hI
      obtain ⟨x58, hI⟩ := hI
      obtain ⟨x59, hI⟩ := hI
      obtain ⟨x60, hI⟩ := hI
      obtain ⟨x61, hI⟩ := hI
      obtain ⟨x62, hI⟩ := hI
      obtain ⟨x63, hI⟩ := hI
      obtain ⟨x64, hI⟩ := hI
      obtain ⟨x65, hI⟩ := hI
      obtain ⟨x66, hI⟩ := hI
      obtain ⟨x67, hI⟩ := hI
      obtain ⟨x68, hI⟩ := hI
      obtain ⟨x69, hI⟩ := hI
      obtain ⟨x70, hI⟩ := hI
      obtain ⟨x71, hI⟩ := hI
      obtain ⟨x72, hI⟩ := hI
      obtain ⟨x73, hI⟩ := hI
      obtain ⟨x74, hI⟩ := hI
      obtain ⟨x75, hI⟩ := hI
      obtain ⟨x76, hI⟩ := hI
      obtain ⟨x77, hI⟩ := hI
      obtain ⟨x78, hI⟩ := hI
      obtain ⟨x79, hI⟩ := hI
      obtain ⟨x80, hI⟩ := hI
      obtain ⟨x81, hI⟩ := hI
      obtain ⟨x82, hI⟩ := hI
      obtain ⟨x83, hI⟩ := hI
      obtain ⟨x84, hI⟩ := hI
      obtain ⟨x85, hI⟩ := hI
      obtain ⟨x86, hI⟩ := hI
      obtain ⟨x87, hI⟩ := hI
      obtain ⟨x88, hI⟩ := hI
      obtain ⟨x89, hI⟩ := hI
      obtain ⟨x90, hI⟩ := hI
      obtain ⟨x91, hI⟩ := hI
      obtain ⟨x92, hI⟩ := hI
      obtain ⟨x93, hI⟩ := hI
      obtain ⟨x94, hI⟩ := hI
      obtain ⟨x95, hI⟩ := hI
      obtain ⟨x96, hI⟩ := hI
      obtain ⟨x97, hI⟩ := hI
      obtain ⟨x98, hI⟩ := hI
      obtain ⟨x99, hI⟩ := hI
      obtain ⟨x100, hI⟩ := hI
      obtain ⟨x101, hI⟩ := hI
      obtain ⟨x102, hI⟩ := hI
      obtain ⟨x103, hI⟩ := hI
      obtain ⟨x104, hI⟩ := hI
      obtain ⟨x105, hI⟩ := hI
      obtain ⟨x106, hI⟩ := hI
      obtain ⟨x107, hI⟩ := hI
      obtain ⟨x108, hI⟩ := hI
      obtain ⟨x109, hI⟩ := hI
      obtain ⟨x110, hI⟩ := hI
      obtain ⟨x111, hI⟩ := hI
      obtain ⟨x112, hI⟩ := hI
      obtain ⟨hB', hz', ha⟩ := hI
      dsimp only at ha
      subst ha
      refine ⟨fun _ h => (by cases h), ?_⟩
      have hbw : Below wr.heap.size wr w' := hb3.trans hB'
      have hJ' : J (doneR n T1 T2 d m p (q + 1)) k0 E w' := by
        rw [doneR_succ, show propR n T1 T2 m p q = none from hno, List.append_nil]
        exact ownFrom_below' (ownFrom_le (HJ.out _ _ _) (Nat.le_refl _)) hbw hJr
      gi_wp2
      rw [show ((q : Int) + 1) = ((q + 1 : Nat) : Int) by omega]
      refine ⟨⟨q + 1, k0, E, ds, _, _, _, _, _, _, _, _, _, _, _, _, _, _, _, _, _, _, _, _, _, _, _, _, _, _, _, _, _, _, _, _, _, _, _, _, _, _, _, _, _, _, _, _, _, _, _, _, _, _, _, _, _, _, _, _, _, _, _, _, _, _, _, _, _, _, _, _, _, _, _, _, _, _, _, _, _, _, _, _, _, _, _, _, _, _, _, _, _, _, _, _, _, _, _, _, _, _, _, _, _, _, _, _, _, _, _, hqn, Nat.le_trans hk0 hbw.size, hJ', hR.ck (CK.of_below hbw), Nat.le_trans hzr hbw.size, (hM.kept2 fun D _ hD e => (hbw.block D hD).trans e).mono hbw.size, fun i e => Nat.lt_of_lt_of_le (hEr i e) hbw.size, hmk, rfl⟩, ?_⟩
      exact meas_nat hqn
    case hdone =>
      intro m' hsome a' w' hI
      obtain ⟨x8, hI⟩ := hI
      obtain ⟨x9, hI⟩ := hI
      obtain ⟨x10, hI⟩ := hI
      obtain ⟨x11, hI⟩ := hI
      obtain ⟨x12, hI⟩ := hI
      obtain ⟨x32, hI⟩ := hI
      obtain ⟨x33, hI⟩ := hI
      obtain ⟨x34, hI⟩ := hI
      obtain ⟨x35, hI⟩ := hI
      obtain ⟨x36, hI⟩ := hI
      obtain ⟨x37, hI⟩ := hI
      obtain ⟨x38, hI⟩ := hI
      obtain ⟨x39, hI⟩ := hI
      obtain ⟨x40, hI⟩ := hI
      obtain ⟨x41, hI⟩ := hI
      obtain ⟨x42, hI⟩ := hI
      obtain ⟨x43, hI⟩ := hI
      obtain ⟨x44, hI⟩ := hI
      obtain ⟨x45, hI⟩ := hI
      obtain ⟨x46, hI⟩ := hI
      obtain ⟨x47, hI⟩ := hI
      obtain ⟨x48, hI⟩ := hI
      obtain ⟨x49, hI⟩ := hI
      obtain ⟨x50, hI⟩ := hI
      obtain ⟨x51, hI⟩ := hI
      obtain ⟨x52, hI⟩ := hI
      obtain ⟨x53, hI⟩ := hI
      obtain ⟨x54, hI⟩ := hI
      obtain ⟨x55, hI⟩ := hI
      obtain ⟨x56, hI⟩ := hI
      obtain ⟨x57, hI⟩ := hI
      obtain ⟨x58, hI⟩ := hI
      obtain ⟨x59, hI⟩ := hI
      obtain ⟨x60, hI⟩ := hI
      obtain ⟨x61, hI⟩ := hI
      obtain ⟨x62, hI⟩ := hI
      obtain ⟨x63, hI⟩ := hI
      obtain ⟨x64, hI⟩ := hI
      obtain ⟨x65, hI⟩ := hI
      obtain ⟨x66, hI⟩ := hI
      obtain ⟨x67, hI⟩ := hI
      obtain ⟨x68, hI⟩ := hI
      obtain ⟨x69, hI⟩ := hI
      obtain ⟨x70, hI⟩ := hI
      obtain ⟨x71, hI⟩ := hI
      obtain ⟨x72, hI⟩ := hI
      obtain ⟨x73, hI⟩ := hI
      obtain ⟨x74, hI⟩ := hI
      obtain ⟨x75, hI⟩ := hI
      obtain ⟨x76, hI⟩ := hI
      obtain ⟨x77, hI⟩ := hI
      obtain ⟨x78, hI⟩ := hI
      obtain ⟨x79, hI⟩ := hI
      obtain ⟨x80, hI⟩ := hI
      obtain ⟨x81, hI⟩ := hI
      obtain ⟨x82, hI⟩ := hI
      obtain ⟨x83, hI⟩ := hI
      obtain ⟨x84, hI⟩ := hI
      obtain ⟨x85, hI⟩ := hI
      obtain ⟨x86, hI⟩ := hI
      obtain ⟨x87, hI⟩ := hI
      obtain ⟨x88, hI⟩ := hI
      obtain ⟨x89, hI⟩ := hI
      obtain ⟨x90, hI⟩ := hI
      obtain ⟨x91, hI⟩ := hI
      obtain ⟨x92, hI⟩ := hI
      obtain ⟨x93, hI⟩ := hI
      obtain ⟨x94, hI⟩ := hI
      obtain ⟨x95, hI⟩ := hI
      obtain ⟨x96, hI⟩ := hI
      obtain ⟨x97, hI⟩ := hI
      obtain ⟨x98, hI⟩ := hI
      obtain ⟨x99, hI⟩ := hI
      obtain ⟨x100, hI⟩ := hI
      obtain ⟨x101, hI⟩ := hI
      obtain ⟨x102, hI⟩ := hI
      obtain ⟨x103, hI⟩ := hI
      obtain ⟨x104, hI⟩ := hI
      obtain ⟨x105, hI⟩ := hI
      obtain ⟨x106, hI⟩ := hI
      obtain ⟨x107, hI⟩ := hI
      obtain ⟨x108, hI⟩ := hI
      obtain ⟨x109, hI⟩ := hI
      obtain ⟨x110, hI⟩ := hI
      obtain ⟨x111, hI⟩ := hI
      obtain ⟨x112, hI⟩ := hI
      obtain ⟨hO', hB', hz', ha⟩ := hI
      dsimp only at ha
      subst ha
      refine ⟨fun _ h => (by cases h), ?_⟩
      have hbw : Below wr.heap.size wr w' := hb3.trans hB'
      have hck : CK E wr w' := CK.of_below hbw
      have hR' := hR.ck hck
      have hJ' := ownFrom_below' (ownFrom_le (HJ.out _ _ _) (Nat.le_refl _)) hbw hJr
      obtain ⟨G1, cG1, gs1, cs1, e11, e12, e13, e14, e15, e16⟩ := hR'.2.2.2.1
      obtain ⟨G2, cG2, gs2, cs2, e21, e22, e23, e24, e25, e26⟩ := hR'.2.2.2.2
      have hM' := hM.kept2 (W' := w') fun D _ hD e => (hbw.block D hD).trans e
      obtain ⟨hC', hex, hpq, -⟩ := propR_some hT1 hT2 hC hp hqn hsome
      have hud : unk m' ≤ d := by
        have := unk_lt (hC.len.trans hC'.len.symm) hex (by rw [hC.len]; exact hp) hpn hpq
        omega
      have hzw := hbw.size
      gi_wp2_with (first
        | (refine ⟨trivial, ?_⟩; gi_at_call 102; refine (callsIn_wide.2 (renFrom_any _ _ _ _ _ _ _ _ _ w')).mono ?_; rintro e w4 ⟨rfl, hw4⟩; have HW4 := Lib.hid hw4; clear hw4))
      have hw4 := HW4.out
      clear HW4
      have hb4 : Below w'.heap.size w' w4 := by rw [hw4]; exact (((Below.refl _ _).alloc (Nat.le_refl _) _).alloc (by simp) _).alloc (by simp <;> omega) _
      have hz4 : w4.heap.size = w'.heap.size + 1 + 1 + 1 := by rw [hw4]; simp
      have hx1 : Boxed w4 w'.heap.size 46 (.slice (some ⟨G1, 0, none⟩) n cG1) := by rw [hw4]; exact ((Boxed.new w' _ _).alloc _).alloc _
      have hx2 : Boxed w4 (w'.heap.size + 1) 46 (.slice (some ⟨G2, 0, none⟩) n cG2) := by
        have := (Boxed.new (w'.alloc (.cells #[.slice (some ⟨G1, 0, none⟩) n cG1] 46)) 46 (.slice (some ⟨G2, 0, none⟩) n cG2)).alloc (.cells #[.slice (some ⟨g1, 0, none⟩) n cap1] 25)
        rw [World.size_alloc] at this
        rw [hw4]
        exact this
      have hx3 : Boxed w4 (w'.heap.size + 1 + 1) 25 (.slice (some ⟨g1, 0, none⟩) n cap1) := by
        have := Boxed.new ((w'.alloc (.cells #[.slice (some ⟨G1, 0, none⟩) n cG1] 46)).alloc (.cells #[.slice (some ⟨G2, 0, none⟩) n cG2] 46)) 25 (.slice (some ⟨g1, 0, none⟩) n cap1)
        simp only [World.size_alloc] at this
        rw [hw4]
        exact this
      have hck4 : CK E w' w4 := CK.of_below hb4
      have hnE : ∀ i, wr.heap.size ≤ i → ¬ E i := fun i h e => by have := hEr i e; omega
      have ht1 : TbE w4 E w'.heap.size n T1 := ⟨G1, cG1, gs1, cs1, hnE _ (by omega), e12, e13, hx1.cell, fun a ha => hck4.cell (e15 a ha) e12, fun a c ha hc hne => hck4.cell (e16 a c ha hc hne) (e13 a ha)⟩
      have ht2 : TbE w4 E (w'.heap.size + 1) n T2 := ⟨G2, cG2, gs2, cs2, hnE _ (by omega), e22, e23, hx2.cell, fun a ha => hck4.cell (e25 a ha) e22, fun a c ha hc hne => hck4.cell (e26 a c ha hc hne) (e23 a ha)⟩
      have ho4 : OwnE w4 E k0 (.slice (some ⟨g1, 0, none⟩) n cap1) (encM m') := ⟨(hO'.baseD hk0).below hb4 (Nat.le_refl _), fun r e => by
        obtain rfl : g1 = r := by simpa [Value.ownBlock] using e
        exact hnE _ hg1a⟩
      have HSQ := Lib.hid fun W5 (hb : Below w4.heap.size w4 W5) => SeqD.any (n' := 9 - 1) (HIH.out E m' k0 (w'.heap.size + 1 + 1) (w'.heap.size + 1) w'.heap.size (.slice (some ⟨g1, 0, none⟩) n cap1) W5 hC' hud ((CK.of_below (E := E) hb).boxed hx3 (hnE _ (by omega))) (hnE _ (by omega)) (ho4.ck (CK.of_below hb)) (ht1.ck (CK.of_below hb)) (ht2.ck (CK.of_below hb))
        (fun i e => by have := hEr i e; have := hb.size; omega) (by have := hb.size; omega))
      have hN : ∀ pre : List (List (Option Nat)), pre.length < (rens n T1 T2 d m').length → (doneR n T1 T2 d m p q ++ pre).length < (doneR n T1 T2 d m p n).length := fun pre hlt => by
        have h1 := (doneR_stop (pre := rens n T1 T2 d m') hqn hsome (List.prefix_refl _)).length_le
        rw [List.length_append] at h1 ⊢
        omega
      have hJ4 := ownFrom_below' (ownFrom_le (HJ.out _ _ _) (by omega : W.heap.size ≤ W.heap.size)) hb4 hJ'
      have hR4 := hR'.ck hck4
      have hM4 : Marks W.heap.size w4 w4.heap.size ds := (hM'.kept2 (W' := w4) fun D _ hD e => (hb4.block D (Nat.lt_of_lt_of_le hD hzw)).trans e).mono (by omega)
      clear hw4 hb4 hx1 hx2 hx3 hck4 ht1 ht2 ho4 hM' hJ' hR' e11 e12 e13 e14 e15 e16 e21 e22 e23 e24 e25 e26 hO' hB' hbw hck hQ3 hO3 hF3 hT3 hb3 hb2 hg1a hg1b hz3 hmu hpq hex hC' hud hJr hR hM HIH
      refine wpIn_rangeFunc_D hro (by omega) (gf := 121) (lb := #[.pointer (some ⟨w'.heap.size + 1 + 1, 0, none⟩), .pointer (some ⟨w'.heap.size + 1, 0, none⟩), .pointer (some ⟨w'.heap.size, 0, none⟩)]) rfl trivial (enters_of Try.func121 (by kernel_rfl) rfl) rfl (fun i e => by have := hEr i e; omega) HSQ.out
        (fun pre k E' W' => ∃ E1 : Nat → Prop, (∀ i, E1 i → E' i) ∧ J (doneR n T1 T2 d m p q ++ pre) k E1 W' ∧ k ≤ W'.heap.size ∧ RenS E1 n b Bi Bt Bf W.heap.size l (.slice (some ⟨g, 0, none⟩) n cap) T1 T2 m W' ∧ Marks W.heap.size W' w4.heap.size ds ∧ w4.heap.size ≤ W'.heap.size ∧ (∀ i, E1 i → i < W'.heap.size) ∧ MkE E1 ds)
        (fun c pre k E' W' => c = .ret ∧ ∃ E1 : Nat → Prop, Jx (doneR n T1 T2 d m p q ++ pre) k E1 W' ∧ Marks W.heap.size W' w4.heap.size ds)
        (fun pre k E' u X Y row hs hg hr => by
          obtain ⟨E1, s1, s2, s3, s4, s5, s6, s7, s8⟩ := hs
          exact ⟨E1, s1, ownFrom_le (HJ.out _ _ _) (by omega) u X Y row s2 hg hr, Nat.le_trans s3 hg.size, s4.ck (CK.of_grown hg fun r e => (hr r e).2), s5.grown hg (fun r e => .inl (hr r e).1), Nat.le_trans s6 hg.size, fun i e => Nat.lt_of_lt_of_le (s7 i e) hg.size, s8⟩)
        (fun c pre k E' u X Y row hs hg hr => by
          obtain ⟨s1, E1, s2, s3⟩ := hs
          exact ⟨s1, E1, ownFrom_le (HJx.out _ _ _) (by omega) u X Y row s2 hg hr, s3.grown hg (fun r e => .inl (hr r e).1)⟩)
        ⟨E, fun _ e => e, by rw [List.append_nil]; exact hJ4, by omega, hR4, hM4, Nat.le_refl _, fun i e => by have := hEr i e; omega, hmk⟩
        (fun x k E' vx a' W' => (∃ (y0 y1 y2 y3 y5 y6 y7 y8 y9 y10 y11 y12 y14 y15 y16 y17 y18 y19 y20 y21 y22 y23 y24 y25 y26 y27 y28 y29 y30 y31 y32 y33 y34 y35 y36 y37 y38 y39 y40 y41 y42 y43 y44 y45 y46 y47 y48 y49 y50 y51 y52 y53 y54 y55 y56 y57 y58 y59 y60 y61 y62 y63 y64 y65 y66 y67 y68 y69 y70 y71 y72 y73 y74 y75 y76 y77 y78 y79 y80 y81 y82 y83 y84 y85 y86 y87 y88 y89 y90 y91 y92 y93 y94 y95 y96 y97 y98 y99 y100 y101 y102 y103 y104 y105 y106 y107 y108 y109 y110 y111 y112 y113 y114 y115 y116 y117 y118 y119 y120 y121 y122 : Value), a' = { tmps := #[y0, y1, y2, y3, .pointer (some ⟨W.heap.size, 0, none⟩), y5, y6, y7, y8, y9, y10, y11, y12, vx, y14, y15, y16, y17, y18, y19, y20, y21, y22, y23, y24, y25, y26, y27, y28, y29, y30, y31, y32, y33, y34, y35, y36, y37, y38, y39, y40, y41, y42, y43, y44, y45, y46, y47, y48, y49, y50, y51, y52, y53, y54, y55, y56, y57, y58, y59, y60, y61, y62, y63, y64, y65, y66, y67, y68, y69, y70, y71, y72, y73, y74, y75, y76, y77, y78, y79, y80, y81, y82, y83, y84, y85, y86, y87, y88, y89, y90, y91, y92, y93, y94, y95, y96, y97, y98, y99, y100, y101, y102, y103, y104, y105, y106, y107, y108, y109, y110, y111, y112, y113, y114, y115, y116, y117, y118, y119, y120, y121, y122], defers := [] }) ∧ RenG n T1 T2 x k E' vx W')
        (fun x k E' vx a' u X Y row hs hg hr => ⟨hs.1, OwnE.ck hs.2.1 (CK.of_grown hg fun r e => (hr r e).2), hs.2.2⟩) ?assign ?body ?done ?stop
      case assign =>
        intro l' pre x k E' vx W' K hi hRx hK
        obtain ⟨a9, c9, rfl⟩ := OwnJ.formS hRx.1.1
        simp only [List.zip_toArray, List.zip_cons_cons, List.zip_nil_right, List.size_toArray, List.length_cons, List.length_nil, List.foldl_toArray', List.foldl_cons, List.foldl_nil, List.setIfInBounds_toArray, List.set_cons_succ, List.set_cons_zero]
        gi_wp2
        exact hK _ _ (Kept.refl _ _ _) hi ⟨⟨_, _, _, _, _, _, _, _, _, _, _, _, _, _, _, _, _, _, _, _, _, _, _, _, _, _, _, _, _, _, _, _, _, _, _, _, _, _, _, _, _, _, _, _, _, _, _, _, _, _, _, _, _, _, _, _, _, _, _, _, _, _, _, _, _, _, _, _, _, _, _, _, _, _, _, _, _, _, _, _, _, _, _, _, _, _, _, _, _, _, _, _, _, _, _, _, _, _, _, _, _, _, _, _, _, _, _, _, _, _, _, _, _, _, _, _, _, _, _, _, _, rfl⟩, hRx⟩
      case body =>
        rintro l' n1 pre x k E' vx a' W' hn1' hwn ⟨E1, i0, i1, i2, i3, i4, i5, i6, i7⟩ ⟨hA, hRx⟩ hlen
        obtain ⟨y0, hA⟩ := hA
        obtain ⟨y1, hA⟩ := hA
        obtain ⟨y2, hA⟩ := hA
        obtain ⟨y3, hA⟩ := hA
        obtain ⟨y5, hA⟩ := hA
        obtain ⟨y6, hA⟩ := hA
        obtain ⟨y7, hA⟩ := hA
        obtain ⟨y8, hA⟩ := hA
        obtain ⟨y9, hA⟩ := hA
        obtain ⟨y10, hA⟩ := hA
        obtain ⟨y11, hA⟩ := hA
        obtain ⟨y12, hA⟩ := hA
        obtain ⟨y14, hA⟩ := hA
        obtain ⟨y15, hA⟩ := hA
        obtain ⟨y16, hA⟩ := hA
        obtain ⟨y17, hA⟩ := hA
        obtain ⟨y18, hA⟩ := hA
        obtain ⟨y19, hA⟩ := hA
        obtain ⟨y20, hA⟩ := hA
        obtain ⟨y21, hA⟩ := hA
        obtain ⟨y22, hA⟩ := hA
        obtain ⟨y23, hA⟩ := hA
        obtain ⟨y24, hA⟩ := hA
        obtain ⟨y25, hA⟩ := hA
        obtain ⟨y26, hA⟩ := hA
        obtain ⟨y27, hA⟩ := hA
        obtain ⟨y28, hA⟩ := hA
        obtain ⟨y29, hA⟩ := hA
        obtain ⟨y30, hA⟩ := hA
        obtain ⟨y31, hA⟩ := hA
        obtain ⟨y32, hA⟩ := hA
        obtain ⟨y33, hA⟩ := hA
        obtain ⟨y34, hA⟩ := hA
        obtain ⟨y35, hA⟩ := hA
        obtain ⟨y36, hA⟩ := hA
        obtain ⟨y37, hA⟩ := hA
        obtain ⟨y38, hA⟩ := hA
        obtain ⟨y39, hA⟩ := hA
        obtain ⟨y40, hA⟩ := hA
        obtain ⟨y41, hA⟩ := hA
        obtain ⟨y42, hA⟩ := hA
        obtain ⟨y43, hA⟩ := hA
        obtain ⟨y44, hA⟩ := hA
        obtain ⟨y45, hA⟩ := hA
        obtain ⟨y46, hA⟩ := hA
        obtain ⟨y47, hA⟩ := hA
        obtain ⟨y48, hA⟩ := hA
        obtain ⟨y49, hA⟩ := hA
        obtain ⟨y50, hA⟩ := hA
        obtain ⟨y51, hA⟩ := hA
        obtain ⟨y52, hA⟩ := hA
        obtain ⟨y53, hA⟩ := hA
        obtain ⟨y54, hA⟩ := hA
        obtain ⟨y55, hA⟩ := hA
        obtain ⟨y56, hA⟩ := hA
        obtain ⟨y57, hA⟩ := hA
        obtain ⟨y58, hA⟩ := hA
        obtain ⟨y59, hA⟩ := hA
        obtain ⟨y60, hA⟩ := hA
        obtain ⟨y61, hA⟩ := hA
        obtain ⟨y62, hA⟩ := hA
        obtain ⟨y63, hA⟩ := hA
        obtain ⟨y64, hA⟩ := hA
        obtain ⟨y65, hA⟩ := hA
        obtain ⟨y66, hA⟩ := hA
        obtain ⟨y67, hA⟩ := hA
        obtain ⟨y68, hA⟩ := hA
        obtain ⟨y69, hA⟩ := hA
        obtain ⟨y70, hA⟩ := hA
        obtain ⟨y71, hA⟩ := hA
        obtain ⟨y72, hA⟩ := hA
        obtain ⟨y73, hA⟩ := hA
        obtain ⟨y74, hA⟩ := hA
        obtain ⟨y75, hA⟩ := hA
        obtain ⟨y76, hA⟩ := hA
        obtain ⟨y77, hA⟩ := hA
        obtain ⟨y78, hA⟩ := hA
        obtain ⟨y79, hA⟩ := hA
        obtain ⟨y80, hA⟩ := hA
        obtain ⟨y81, hA⟩ := hA
        obtain ⟨y82, hA⟩ := hA
        obtain ⟨y83, hA⟩ := hA
        obtain ⟨y84, hA⟩ := hA
        obtain ⟨y85, hA⟩ := hA
        obtain ⟨y86, hA⟩ := hA
        obtain ⟨y87, hA⟩ := hA
        obtain ⟨y88, hA⟩ := hA
        obtain ⟨y89, hA⟩ := hA
        obtain ⟨y90, hA⟩ := hA
        obtain ⟨y91, hA⟩ := hA
        obtain ⟨y92, hA⟩ := hA
        obtain ⟨y93, hA⟩ := hA
        obtain ⟨y94, hA⟩ := hA
        obtain ⟨y95, hA⟩ := hA
        obtain ⟨y96, hA⟩ := hA
        obtain ⟨y97, hA⟩ := hA
        obtain ⟨y98, hA⟩ := hA
        obtain ⟨y99, hA⟩ := hA
        obtain ⟨y100, hA⟩ := hA
        obtain ⟨y101, hA⟩ := hA
        obtain ⟨y102, hA⟩ := hA
        obtain ⟨y103, hA⟩ := hA
        obtain ⟨y104, hA⟩ := hA
        obtain ⟨y105, hA⟩ := hA
        obtain ⟨y106, hA⟩ := hA
        obtain ⟨y107, hA⟩ := hA
        obtain ⟨y108, hA⟩ := hA
        obtain ⟨y109, hA⟩ := hA
        obtain ⟨y110, hA⟩ := hA
        obtain ⟨y111, hA⟩ := hA
        obtain ⟨y112, hA⟩ := hA
        obtain ⟨y113, hA⟩ := hA
        obtain ⟨y114, hA⟩ := hA
        obtain ⟨y115, hA⟩ := hA
        obtain ⟨y116, hA⟩ := hA
        obtain ⟨y117, hA⟩ := hA
        obtain ⟨y118, hA⟩ := hA
        obtain ⟨y119, hA⟩ := hA
        obtain ⟨y120, hA⟩ := hA
        obtain ⟨y121, hA⟩ := hA
        obtain ⟨y122, hA⟩ := hA
        dsimp only at hA
        subst hA
        obtain ⟨fn, tmps, assign, body, hy, hyR⟩ := HY.out _ x k E1 vx W' i1 ⟨hRx.1.fewer i0, hRx.2⟩ (hN pre hlen)
        have hyb := i3.1.1.cell
        have HYR := Lib.hid hyR
        obtain ⟨a9, c9, rfl⟩ := OwnJ.formS hRx.1.1
        clear hyR hN HSQ hJ4 hR4 hM4
        gi_wp2
        refine (roundIn_in HYR.out).mono ?_
        rintro e W3 ⟨hk3, ⟨rfl, hJ3⟩ | ⟨rfl, hJ3⟩⟩
        · have hK3 : Kept w4.heap.size E' W' W3 := hk3.mono (by omega) i0
          have hM3 : Marks W.heap.size W3 w4.heap.size ds := i4.kept3 i7 fun D hD h0 _ e => hk3.2 D _ e hD (.inl h0)
          rw [List.append_assoc] at hJ3
          have hsub : ∀ i, growE E1 W'.heap.size W3 i → growE E' n1 W3 i := fun i e => by
            rcases e with e | e
            · exact .inl (i0 i e)
            · exact .inr ⟨by omega, e.2⟩
          have hlt3 : ∀ i, growE E1 W'.heap.size W3 i → i < W3.heap.size := fun i e => by
            rcases e with e | e
            · exact Nat.lt_of_lt_of_le (i6 i e) hk3.1
            · exact e.2
          have hmk3 : MkE (growE E1 W'.heap.size W3) ds := fun dd hd D e hg => by
            rcases hg with hg | hg
            · exact i7 dd hd D e hg
            · have := i4.lt dd hd D e
              omega
          have hRS3 := i3.more (CK.of_kept hk3) hn1
          have HFI := Lib.hid (show Kept w4.heap.size E' W' W3 ∧ ∃ E2 : Nat → Prop, (∀ i, E2 i → growE E' n1 W3 i) ∧ J (doneR n T1 T2 d m p q ++ (pre ++ [x])) W3.heap.size E2 W3 ∧ W3.heap.size ≤ W3.heap.size ∧ RenS E2 n b Bi Bt Bf W.heap.size l (.slice (some ⟨g, 0, none⟩) n cap) T1 T2 m W3 ∧ Marks W.heap.size W3 w4.heap.size ds ∧ w4.heap.size ≤ W3.heap.size ∧ (∀ i, E2 i → i < W3.heap.size) ∧ MkE E2 ds from ⟨hK3, growE E1 W'.heap.size W3, hsub, hJ3, Nat.le_refl _, hRS3, hM3, Nat.le_trans i5 hk3.1, hlt3, hmk3⟩)
          clear hK3 hM3 hsub hlt3 hmk3 hRS3 hJ3
          gi_wp2
          exact HFI.out
        · have hK3 : Kept w4.heap.size E' W' W3 := hk3.mono (by omega) i0
          have hM3 : Marks W.heap.size W3 w4.heap.size ds := i4.kept3 i7 fun D hD h0 _ e => hk3.2 D _ e hD (.inl h0)
          rw [List.append_assoc] at hJ3
          gi_wp2
          exact ⟨hK3, rfl, _, hJ3, hM3⟩
      case done =>
        rintro D ys k E' W' hD hnD rfl ⟨E1, i0, i1, i2, i3, i4, i5, i6, i7⟩ hK
        have hJ5 : J (doneR n T1 T2 d m p (q + 1)) k E1 W' := by
          rw [doneR_succ, show propR n T1 T2 m p q = some m' from hsome]
          exact i1
        have hM5 : Marks W.heap.size W' W'.heap.size ({ target := .collected D, args := #[] } :: ds) := ⟨D, rfl, by omega, (Array.getElem?_eq_some_iff.1 hK).1, hK, i4.mono hD⟩
        have hmk5 : MkE E1 ({ target := .collected D, args := #[] } :: ds) := fun dd hd D' e hg => by
          rcases List.mem_cons.1 hd with rfl | hd
          · have : D = D' := by simpa using e
            subst this
            exact hnD (i0 _ hg)
          · exact i7 dd hd D' e hg
        clear i1 i4 hJ4 hR4 hM4 hN HSQ hK
        gi_wp2
        rw [show ((q : Int) + 1) = ((q + 1 : Nat) : Int) by omega]
        refine ⟨⟨q + 1, k, E1, _, _, _, _, _, _, _, _, _, _, _, _, _, _, _, _, _, _, _, _, _, _, _, _, _, _, _, _, _, _, _, _, _, _, _, _, _, _, _, _, _, _, _, _, _, _, _, _, _, _, _, _, _, _, _, _, _, _, _, _, _, _, _, _, _, _, _, _, _, _, _, _, _, _, _, _, _, _, _, _, _, _, _, _, _, _, _, _, _, _, _, _, _, _, _, _, _, _, _, _, _, _, _, _, _, _, _, _, hqn, i2, hJ5, i3, by omega, hM5, i6, hmk5, rfl⟩, ?_⟩
        exact meas_nat hqn
      case stop =>
        rintro D c pre k E' W' hD hnD hSp ⟨rfl, E1, i1, i2⟩ hK
        have hM5 : Marks W.heap.size W' W'.heap.size ({ target := .collected D, args := #[] } :: ds) := ⟨D, rfl, by omega, (Array.getElem?_eq_some_iff.1 hK).1, hK, i2.mono hD⟩
        have hpre := doneR_stop hqn hsome hSp
        clear hJ4 hR4 hM4 hN HSQ hK i2
        gi_wp2
        refine leaves_marks (n0 := W.heap.size) (fun W' => Jx (doneR n T1 T2 d m p q ++ pre) k E1 W') ?_ ?_ _ W'.heap.size W' hM5 i1
        · intro W5 D' h1 hD' hK'
          exact (HJx.out _ _ _).putObj (s := ()) _ h1 hD' hK' rfl
        · intro W5 h1
          exact ⟨_, results_none rfl _ _ _, ⟨_, rfl⟩, .inr ⟨_, _, _, hpre, h1⟩⟩
  · obtain rfl : q = n := by omega
    gi_wp2
    refine leaves_marks (n0 := W.heap.size) (fun W' => J (doneR q T1 T2 d m p q) k0 E W') ?_ ?_ ds wr.heap.size wr hM hJr
    · intro W' D h1 hD hK
      exact (HJ.out _ _ _).putObj (s := ()) _ h1 hD hK rfl
    · intro W' h1
      exact ⟨_, results_none rfl _ _ _, ⟨_, rfl⟩, .inl ⟨_, _, _, rfl, h1⟩⟩
/-- All renumberings that have the known images come, in their order. -/
theorem ren_anyD (n : Nat) (T1 T2 : Nat → Nat → Nat) (hT1 : Thd n T1) (hT2 : Thd n T2) (hn1 : 1 < n) (hn : n ≤ 15) :
    ∀ (d : Nat) (E : Nat → Prop) (m : List (Option Nat)) (b Bi Bt Bf : Nat) (v : Value) (W : World), Cl n T1 T2 m [] → unk m ≤ d → Boxed W Bi 25 v → ¬ E Bi → OwnE W E b v (encM m) → TbE W E Bf n T1 → TbE W E Bt n T2 → (∀ i, E i → i < W.heap.size) → b ≤ W.heap.size →
      SeqD Fence.wide 9 Try.prog 121 #[.pointer (some ⟨Bi, 0, none⟩), .pointer (some ⟨Bt, 0, none⟩), .pointer (some ⟨Bf, 0, none⟩)] (RenG n T1 T2) E (fun xs => xs = rens n T1 T2 d m) (fun pre => pre <+: rens n T1 T2 d m) (rens n T1 T2 d m).length b W
  | 0, E, m, b, Bi, Bt, Bf, v, W, hC, hu, hX, _, hO, _, _, _, hb => by
    have hf : m.findIdx? Option.isNone = none := by
      cases hf : m.findIdx? Option.isNone with
      | none => rfl
      | some p =>
        obtain ⟨hp, hn, _⟩ := find_some hf
        have := unk_set (b := 0) hp hn
        omega
    exact ren_leafD n E T1 T2 m hC (by omega) hn hf b Bi _ _ v W hX hO hb
  | d + 1, E, m, b, Bi, Bt, Bf, v, W, hC, hu, hX, hEi, hO, hF, hT, hE, hb => by
    cases hf : m.findIdx? Option.isNone with
    | none =>
      have e : rens n T1 T2 (d + 1) m = [m] := by rw [rens, hf]
      rw [e]
      exact ren_leafD n E T1 T2 m hC (by omega) hn hf b Bi _ _ v W hX hO hb
    | some p => exact ren_nodeD n T1 T2 hT1 hT2 hn1 hn d (ren_anyD n T1 T2 hT1 hT2 hn1 hn d) E m p hf hC hu b Bi Bt Bf v W hX hEi hO hF hT hE hb
end Go.Proofs.Ytoicdfdfajfopaa

namespace Go.Proofs.Ytoicdfdfajfopaa
open Go.RowKit Go.Maps
theorem few {n : Nat} (h : n ≤ 35) : n = 0 ∨ n = 1 ∨ n = 2 ∨ n = 3 ∨ n = 4 ∨ n = 5 ∨ n = 6 ∨ n = 7 ∨ n = 8 ∨ n = 9 ∨ n = 10 ∨ n = 11 ∨ n = 12 ∨ n = 13 ∨ n = 14 ∨ n = 15 ∨ n = 16 ∨ n = 17 ∨ n = 18 ∨ n = 19 ∨ n = 20 ∨ n = 21 ∨ n = 22 ∨ n = 23 ∨ n = 24 ∨ n = 25 ∨ n = 26 ∨ n = 27 ∨ n = 28 ∨ n = 29 ∨ n = 30 ∨ n = 31 ∨ n = 32 ∨ n = 33 ∨ n = 34 ∨ n = 35 := by omega
set_option maxRecDepth 100000 in
set_option maxHeartbeats 4000000 in
theorem Mul64_one (n : Nat) (hn : n ≤ 35) (w : World) : Calls Try.prog 133 #[.int .u64 1, .int .u64 (n : Int)] w (fun e w' => e = .returned (.tuple #[.int .u64 0, .int .u64 (n : Int)]) ∧ w = w') := by
  rcases few hn with rfl | rfl | rfl | rfl | rfl | rfl | rfl | rfl | rfl | rfl | rfl | rfl | rfl | rfl | rfl | rfl | rfl | rfl | rfl | rfl | rfl | rfl | rfl | rfl | rfl | rfl | rfl | rfl | rfl | rfl | rfl | rfl | rfl | rfl | rfl | rfl
  all_goals
    clear hn
    go_enter Try.func133, Try.ntmps133
    go_wp2
    go_ret2
    exact ⟨rfl, rfl⟩
set_option maxRecDepth 100000 in
theorem Mul_one (n : Nat) (hn : n ≤ 35) (w : World) : Calls Try.prog 120 #[.int .u64 1, .int .u64 (n : Int)] w (fun e w' => e = .returned (.tuple #[.int .u64 0, .int .u64 (n : Int)]) ∧ w = w') := by
  have HM := Lib.hid (Mul64_one n hn)
  go_enter Try.func120, Try.ntmps120
  go_wp2_with fail
  refine (HM.out _).mono ?_
  rintro e w1 ⟨rfl, rfl⟩
  go_wp2
  go_ret2
  exact ⟨rfl, rfl⟩
end Go.Proofs.Ytoicdfdfajfopaa

namespace Go.Proofs.Ytoicdfdfajfopaa
open Go.RowKit Go.Maps
/-- The row when its first c places are written. -/
def rptL (n c : Nat) (x : Int) : List Value := List.replicate c (.int .i64 x) ++ List.replicate (n - c) (.int .i64 0)
theorem rptL_len {n c : Nat} (x : Int) (h : c ≤ n) : (rptL n c x).length = n := by simp [rptL]; omega
theorem rptL_at {n c j : Nat} (x : Int) (h : j < c) : (rptL n c x)[j]? = some (.int .i64 x) := by
  unfold rptL
  rw [List.getElem?_append_left (by simpa using h)]
  simp [h]
theorem rpt_made (n : Nat) : madeCells #[.int .i64 0] n = Array.replicate n (Value.int .i64 0) := by
  apply Array.ext
  · simp [madeCells]
  · intro i h1 h2
    simp [madeCells, Nat.mod_one]
theorem rpt_first {n : Nat} (x : Int) (h : 1 ≤ n) : splice (List.replicate n (Value.int .i64 0)) 0 [.int .i64 x] = rptL n 1 x := by
  obtain ⟨k, rfl⟩ : ∃ k, n = k + 1 := ⟨n - 1, by omega⟩
  simp [splice, rptL, List.replicate_succ]
theorem rpt_next {n c k : Nat} (x : Int) (h : c + k ≤ n) : splice (rptL n c x) c (List.replicate k (.int .i64 x)) = rptL n (c + k) x := by
  unfold splice rptL
  rw [List.take_append_of_le_length (by simp)]
  simp only [List.length_replicate, List.take_replicate, Nat.min_self]
  rw [List.drop_append, List.drop_replicate, List.drop_replicate, List.length_replicate]
  rw [show c - (c + k) = 0 by omega, List.replicate_zero, List.nil_append, show c + k - c = k by omega, show n - c - k = n - (c + k) by omega, ← List.append_assoc, List.replicate_append_replicate]
theorem info64 : (Try.prog.info? 2).map (·.size) = some 1 := by kernel_rfl
set_option maxRecDepth 100000 in
set_option maxHeartbeats 4000000 in
theorem RepeatI_any (n : Nat) (h1 : 1 ≤ n) (hn : n ≤ 35) (B : Nat) (x : Int) (w : World) (hc : w.cell? ⟨B, 0, none⟩ = some (.int .i64 x)) :
    Calls Try.prog 101 #[.slice (some ⟨B, 0, none⟩) 1 1, .int .i64 (n : Int)] w (fun e w' => ∃ g, e = .returned (.slice (some ⟨g, 0, none⟩) n n) ∧ OwnJ w' w.heap.size (.slice (some ⟨g, 0, none⟩) n n) (List.replicate n x) ∧ Below w.heap.size w w') := by
  have HM := Lib.hid (Mul_one n hn)
  have hmk := mkRowD n (by omega)
  rw [rpt_made] at hmk
  obtain ⟨W1, hW1⟩ : ∃ W1, W1 = w.alloc (.cells (Array.replicate n (Value.int .i64 0)) 2) := ⟨_, rfl⟩
  have hg1 : W1.heap[w.heap.size]? = some (.cells (List.replicate n (Value.int .i64 0)).toArray 2 (0, 0)) := by rw [hW1]; exact World.alloc_heap_new w _
  have hb1 : Below w.heap.size w W1 := by rw [hW1]; exact (Below.refl _ _).alloc (Nat.le_refl _) _
  have hc1 : W1.cell? ⟨B, 0, none⟩ = some (.int .i64 x) := (hb1.cell (p := ⟨B, 0, none⟩) (block_lt_of_cell hc)).trans hc
  have hc2 : ∀ j v, [Value.int .i64 x][j]? = some v → W1.cell? ((⟨B, 0, none⟩ : Addr).add j) = some v := fun j v hj => by
    cases j with
    | zero =>
      simp at hj
      rw [← hj]
      exact hc1
    | succ j => simp at hj
  rw [hW1] at hg1 hb1 hc2
  have HG := Lib.hid hg1
  have HB := Lib.hid hb1
  have HC := Lib.hid hc2
  have hm1 : [Value.int .i64 x].length = Nat.min 1 n := (Nat.min_eq_left h1).symm
  have hm2 : 0 + [Value.int .i64 x].length ≤ (List.replicate n (Value.int .i64 0)).length := by simp; omega
  clear hg1 hb1 hc1 hc2 hc hW1 W1
  have hn0 : decide ((n : Int) < 0) = false := by simp
  have HF := Lib.hid (rpt_first (n := n) x h1)
  go_enter Try.func101, Try.ntmps101
  go_wp2_with fail
  refine (HM.out _).mono ?_
  rintro e w1 ⟨rfl, rfl⟩
  clear HM
  go_wp2_with (with_reducible show wpList _ _ _ _ _ _; refine wpList_copy_splice rfl (.tmp 31) (.tmp 32) 25 25 rfl 2 Try.underlying25 info64 (some ⟨w.heap.size, 0, none⟩) (some ⟨B, 0, none⟩) n n 1 1 rfl rfl w.heap.size 0 (List.replicate n (.int .i64 0)) 2 HG.out [.int .i64 x] hm1 (fun _ => ⟨rfl, _, rfl, HC.out⟩) hm2 (by simp [Value.oneCell']) w.heap.size w HB.out (Nat.le_refl _) ?_; rw [HF.out]; intro w4 hg4 hb4)
  have HG4 := Lib.hid hg4.out
  have HB4 := Lib.hid hb4
  clear HG HB HC HF hg4 hb4 hmk
  go_loopw [8] (fun i wr => ∃ c : Nat, 1 ≤ c ∧ c ≤ n ∧ i = .int .i64 c ∧ Hid (wr.heap[w.heap.size]? = some (.cells (rptL n c x).toArray 2 (0, 0))) ∧ Hid (Below w.heap.size w wr)) (fun i _ => n - (intOf i).toNat)
  case atStart => exact ⟨1, Nat.le_refl _, h1, rfl, HG4, HB4⟩
  case round =>
    obtain ⟨c, hc1, hcn, rfl, HG, HB⟩ := hrel
    clear HG4 HB4
    by_cases hlt : c < n
    · obtain ⟨k, hk⟩ : ∃ k, k = min c (n - c) := ⟨_, rfl⟩
      have hk1 : 1 ≤ k := by omega
      have hkn : c + k ≤ n := by omega
      have hkc : k ≤ c := by omega
      have HK := Lib.hid hk
      have HN := Lib.hid (rpt_next (n := n) x hkn)
      clear hk
      have HS := Lib.hid (show ∀ j v, (List.replicate k (Value.int .i64 x))[j]? = some v → wr.cell? ((⟨w.heap.size, 0, none⟩ : Addr).add j) = some v from fun j v hj => by
        have hjk : j < k := by have := (List.getElem?_eq_some_iff.1 hj).1; simpa using this
        rw [List.getElem?_eq_getElem (by simpa using hjk), List.getElem_replicate] at hj
        cases hj
        rw [addr_at, Nat.zero_add]
        have := rptL_at (n := n) x (show j < c by omega)
        simp [World.cell?, HG.out, this])
      go_upto_region 9 with fail
      go_region_law (refine step_copy_splice rfl (.tmp 41) (.tmp 44) 25 25 rfl 2 Try.underlying25 info64 (some ⟨w.heap.size, c, none⟩) (some ⟨w.heap.size, 0, none⟩) (n - c) (n - c) c n (by simp [Act.eval, go_sem] <;> omega) (by simp [Act.eval, go_sem]) w.heap.size c (rptL n c x) 2 (by first | exact HG.out) (List.replicate k (.int .i64 x)) (by rw [List.length_replicate]; exact HK.out) (fun _ => ⟨rfl, _, rfl, HS.out⟩) (by rw [List.length_replicate, rptL_len _ (by omega)]; omega) (by intro v hv; rw [List.eq_of_mem_replicate hv]; rfl) w.heap.size w (by first | exact HB.out | exact HB.out.drew) (Nat.le_refl _) ?_; rw [HN.out]; intro w5 hg5 hb5)
      all_goals
        go_wp2
        rw [show ((c : Int) + (k : Int)) = ((c + k : Nat) : Int) by omega, show IntKind.i64.wrap ((c + k : Nat) : Int) = ((c + k : Nat) : Int) from IntWalk.i64_in _ (by omega)]
        go_roundw
        case rel => exact ⟨c + k, by omega, hkn, rfl, hg5, by first | exact Lib.hid hb5 | exact Lib.hid trivial⟩
        case measure => simp [intOf]; omega
    · obtain rfl : c = n := by omega
      have hml : 1100000 ≤ maxLen := by decide
      have HO := Lib.hid (show OwnJ wr w.heap.size (.slice (some ⟨w.heap.size, 0, none⟩) c c) (List.replicate c x) from ⟨by simp, .inr ⟨w.heap.size, c, (rptL c c x).toArray, by simp, Nat.le_refl _, HG.out, by simp, by omega, by simp [rptL], by simp [rptL]⟩⟩)
      clear hml HG
      go_wp2
      go_ret
      exact ⟨_, rfl, HO.out, HB.out⟩
end Go.Proofs.Ytoicdfdfajfopaa

namespace Go.Proofs.Ytoicdfdfajfopaa
def setAt (f : Nat → Nat) (i v : Nat) : Nat → Nat := fun j => if j = i then v else f j
/-- The program's round: the orbits so far and the places of their first numbers. -/
def orbR (first : Nat → Nat) (k : Nat) (s : List (List Nat) × (Nat → Nat)) : List (List Nat) × (Nat → Nat) :=
  let t := if first k = k then (s.1 ++ [[]], setAt s.2 k s.1.length) else s
  (t.1.modify (t.2 (first k)) (· ++ [k]), t.2)
def orbG (first : Nat → Nat) : Nat → List (List Nat) × (Nat → Nat)
  | 0 => ([], fun _ => 0)
  | k + 1 => orbR first k (orbG first k)
/-- The first numbers of orbits. -/
def fstL (first : Nat → Nat) (k : Nat) : List Nat := (List.range k).filter fun p => decide (first p = p)
def clsL (first : Nat → Nat) (k p : Nat) : List Nat := (List.range k).filter fun i => decide (first i = p)
theorem modify_map {g : Nat → List Nat} {h : List Nat → List Nat} {f : Nat} : ∀ (L : List Nat) (i : Nat), L.Nodup → L[i]? = some f → (L.map g).modify i h = L.map fun p => if p = f then h (g p) else g p
  | [], i, _, e => by simp at e
  | x :: L, 0, hn, e => by
    simp at e
    subst e
    rw [List.nodup_cons] at hn
    simp only [List.map_cons, List.modify_zero_cons, if_true]
    congr 1
    refine List.map_congr_left fun p hp => ?_
    rw [if_neg (fun e => hn.1 (by rw [← e]; exact hp))]
  | x :: L, i + 1, hn, e => by
    rw [List.nodup_cons] at hn
    simp only [List.getElem?_cons_succ] at e
    have hx : x ≠ f := fun h => hn.1 (h ▸ List.mem_of_getElem? e)
    simp only [List.map_cons, List.modify_succ_cons]
    rw [modify_map L i hn.2 e, if_neg hx]
theorem modify_last (h : List Nat → List Nat) : ∀ A : List (List Nat), (A ++ [[]]).modify A.length h = A ++ [h []]
  | [] => rfl
  | x :: A => by simp [modify_last h A]
theorem fstL_nodup (first : Nat → Nat) (k : Nat) : (fstL first k).Nodup := List.nodup_range.sublist List.filter_sublist
theorem fstL_mem {first : Nat → Nat} {k p : Nat} : p ∈ fstL first k ↔ p < k ∧ first p = p := by simp [fstL]
theorem orbG_inv {first : Nat → Nat} (hle : ∀ i, first i ≤ i) (hff : ∀ i, first (first i) = first i) : ∀ k : Nat, (orbG first k).1 = (fstL first k).map (clsL first k) ∧ ∀ p ∈ fstL first k, (fstL first k)[(orbG first k).2 p]? = some p
  | 0 => ⟨rfl, fun p hp => by cases hp⟩
  | k + 1 => by
    obtain ⟨h1, h2⟩ := orbG_inv hle hff k
    have hcl : ∀ p, clsL first (k + 1) p = clsL first k p ++ if first k = p then [k] else [] := fun p => by
      unfold clsL
      rw [List.range_succ, List.filter_append, List.filter_cons]
      congr 1
      by_cases e : first k = p <;> simp [e]
    have hfl : fstL first (k + 1) = fstL first k ++ if first k = k then [k] else [] := by
      unfold fstL
      rw [List.range_succ, List.filter_append, List.filter_cons]
      congr 1
      by_cases e : first k = k <;> simp [e]
    show (orbR first k (orbG first k)).1 = _ ∧ ∀ p ∈ fstL first (k + 1), (fstL first (k + 1))[(orbR first k (orbG first k)).2 p]? = some p
    unfold orbR
    by_cases e : first k = k
    · rw [if_pos e, e]
      rw [if_pos e] at hfl
      have hlen : (orbG first k).1.length = (fstL first k).length := by rw [h1, List.length_map]
      have hnk : clsL first k k = [] := by
        unfold clsL
        rw [List.filter_eq_nil_iff]
        intro i hi
        rw [List.mem_range] at hi
        have := hle i
        simp
        omega
      refine ⟨?_, fun p hp => ?_⟩
      · dsimp only
        rw [show setAt (orbG first k).2 k (orbG first k).1.length k = (orbG first k).1.length from if_pos rfl, modify_last, h1, hfl, List.map_append, List.nil_append, List.map_cons, List.map_nil]
        congr 1
        · refine List.map_congr_left fun p hp => ?_
          rw [hcl, e, if_neg (fun h => by have := (fstL_mem.1 hp).1; omega), List.append_nil]
        · rw [hcl, hnk, if_pos e, List.nil_append]
      · dsimp only
        rw [hfl] at hp ⊢
        rcases List.mem_append.1 hp with hp | hp
        · have hpk : p ≠ k := fun h => by have := (fstL_mem.1 hp).1; omega
          rw [show setAt (orbG first k).2 k (orbG first k).1.length p = (orbG first k).2 p from if_neg hpk]
          have := h2 p hp
          rw [List.getElem?_append_left (List.getElem?_eq_some_iff.1 this).1]
          exact this
        · rw [List.mem_singleton.1 hp, show setAt (orbG first k).2 k (orbG first k).1.length k = (orbG first k).1.length from if_pos rfl, hlen]
          simp
    · rw [if_neg e]
      rw [if_neg e, List.append_nil] at hfl
      have hlt : first k < k := by have := hle k; omega
      have hmem : first k ∈ fstL first k := fstL_mem.2 ⟨hlt, hff k⟩
      refine ⟨?_, fun p hp => ?_⟩
      · dsimp only
        rw [h1, modify_map _ _ (fstL_nodup first k) (h2 _ hmem), hfl]
        refine List.map_congr_left fun p _ => ?_
        rw [hcl]
        by_cases h : p = first k
        · rw [if_pos h, if_pos h.symm]
        · rw [if_neg h, if_neg (Ne.symm h), List.append_nil]
      · dsimp only
        rw [hfl] at hp ⊢
        exact h2 p hp
/-- A relation among the numbers below n in classes. -/
structure Eqv (n : Nat) (R : Nat → Nat → Bool) : Prop where
  refl : ∀ a, a < n → R a a = true
  symm : ∀ a b, a < n → b < n → R a b = true → R b a = true
  trans : ∀ a b c, a < n → b < n → c < n → R a b = true → R b c = true → R a c = true
/-- The model's round: what is met, and the orbits so far. -/
def orbN (n : Nat) (R : Nat → Nat → Bool) (p : Nat) (s : (Nat → Bool) × List (List Nat)) : (Nat → Bool) × List (List Nat) :=
  if s.1 p = true then s else ((fun q => s.1 q || R p q), s.2 ++ [(List.range n).filter (R p)])
def orbM (n : Nat) (R : Nat → Nat → Bool) : Nat → (Nat → Bool) × List (List Nat)
  | 0 => ((fun _ => false), [])
  | k + 1 => orbN n R k (orbM n R k)
section
variable {n : Nat} {R : Nat → Nat → Bool} {first : Nat → Nat} (hE : Eqv n R) (hR : ∀ a, a < n → first a < n ∧ R a (first a) = true ∧ ∀ b, b < n → R a b = true → first a ≤ b)
include hE hR
theorem first_le {a : Nat} (ha : a < n) : first a ≤ a := (hR a ha).2.2 a ha (hE.refl a ha)
theorem first_eq {a b : Nat} (ha : a < n) (hb : b < n) : R a b = true ↔ first a = first b := by
  obtain ⟨a1, a2, a3⟩ := hR a ha
  obtain ⟨b1, b2, b3⟩ := hR b hb
  constructor
  · intro h
    have h' := hE.symm a b ha hb h
    have := a3 _ b1 (hE.trans a b _ ha hb b1 h b2)
    have := b3 _ a1 (hE.trans b a _ hb ha a1 h' a2)
    omega
  · intro h
    exact hE.trans a _ b ha a1 hb a2 (by rw [h]; exact hE.symm b _ hb b1 b2)
theorem first_first {a : Nat} (ha : a < n) : first (first a) = first a := ((first_eq hE hR ha (hR a ha).1).1 (hR a ha).2.1).symm
theorem orbM_inv : ∀ k : Nat, k ≤ n → (∀ q, q < n → ((orbM n R k).1 q = true ↔ first q < k)) ∧ (orbM n R k).2 = (fstL first k).map fun p => (List.range n).filter (R p)
  | 0, _ => ⟨fun q _ => by simp [orbM], rfl⟩
  | k + 1, h => by
    obtain ⟨h1, h2⟩ := orbM_inv k (by omega)
    have hk : k < n := by omega
    have hfl : fstL first (k + 1) = fstL first k ++ if first k = k then [k] else [] := by
      unfold fstL
      rw [List.range_succ, List.filter_append, List.filter_cons]
      congr 1
      by_cases e : first k = k <;> simp [e]
    have hle := first_le hE hR hk
    show (∀ q, q < n → ((orbN n R k (orbM n R k)).1 q = true ↔ first q < k + 1)) ∧ (orbN n R k (orbM n R k)).2 = _
    unfold orbN
    by_cases e : first k = k
    · have hm : ¬ (orbM n R k).1 k = true := fun hm => by have := (h1 k hk).1 hm; omega
      rw [if_neg hm, hfl, if_pos e, List.map_append, h2]
      refine ⟨fun q hq => ?_, rfl⟩
      dsimp only
      rw [Bool.or_eq_true, h1 q hq, first_eq hE hR hk hq, e]
      omega
    · have hm : (orbM n R k).1 k = true := (h1 k hk).2 (by omega)
      rw [if_pos hm, hfl, if_neg e, List.append_nil, h2]
      refine ⟨fun q hq => ?_, rfl⟩
      rw [h1 q hq]
      have : first q ≠ k := fun h => e (by rw [← h]; exact first_first hE hR hq)
      omega
/-- Both make the same orbits. -/
theorem orb_same : (orbG (fun a => if a < n then first a else a) n).1 = (orbM n R n).2 := by
  have g1 : ∀ i, (if i < n then first i else i) ≤ i := fun i => by
    split
    · rename_i h; exact first_le hE hR h
    · exact Nat.le_refl _
  have g2 : ∀ i, (fun a => if a < n then first a else a) (if i < n then first i else i) = if i < n then first i else i := fun i => by
    dsimp only
    by_cases h : i < n
    · rw [if_pos h, if_pos (hR i h).1]; exact first_first hE hR h
    · rw [if_neg h, if_neg h]
  rw [(orbG_inv g1 g2 n).1, (orbM_inv hE hR n (Nat.le_refl _)).2]
  have e1 : fstL (fun a => if a < n then first a else a) n = fstL first n := by
    unfold fstL
    refine List.filter_congr fun p hp => ?_
    rw [List.mem_range] at hp
    simp [hp]
  rw [e1]
  refine List.map_congr_left fun p hp => ?_
  obtain ⟨hp, hpf⟩ := fstL_mem.1 hp
  unfold clsL
  refine List.filter_congr fun i hi => ?_
  rw [List.mem_range] at hi
  simp only [hi, if_true]
  have h := first_eq hE hR hp hi
  rw [hpf] at h
  cases hb : R p i with
  | true => rw [decide_eq_true_eq]; exact (h.1 hb).symm
  | false =>
    rw [decide_eq_false_iff_not]
    intro e
    rw [h.2 e.symm] at hb
    cases hb
end
end Go.Proofs.Ytoicdfdfajfopaa

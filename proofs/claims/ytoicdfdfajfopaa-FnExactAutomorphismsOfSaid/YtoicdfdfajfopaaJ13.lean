
/- The program's iterator over renumberings: where an image is not known yet. A range over a function whose rounds may write what earlier rounds made. -/
import Derived.Test.YtoicdfdfajfopaaJ12
import Derived.Deep.Cut
namespace Go.Proofs.Ytoicdfdfajfopaa
open Go.RowKit Go.Maps Go.Shelf
attribute [local go_sem] Oper.semAt_some
theorem wp_calm {P : Program} {c : Code} {Q : Exit → Act → World → Prop} {a : Act} {w : World} (h : c.wp P (fun e a w => (∀ ch, e ≠ .panic ch) ∧ Q e a w) a w) : c.wp P Q a w := wp_mono h (fun _ _ _ h => h.2)
theorem Marks.kept2 {n0 : Nat} {W W' : World} : ∀ {ds : List Deferred} {n1 : Nat}, Marks n0 W n1 ds → (∀ D, n0 ≤ D → D < n1 → W.heap[D]? = some (.deferred (some [])) → W'.heap[D]? = some (.deferred (some []))) → Marks n0 W' n1 ds
  | [], _, _, _ => trivial
  | _ :: _, _, ⟨D, e, h0, h1, hD, hr⟩, k => ⟨D, e, h0, h1, k D h0 h1 hD, hr.kept2 fun D' h0' h' => k D' h0' (by omega)⟩
theorem meas_nat {n q : Nat} (h : q < n) : n - ((q + 1 : Nat) : Int).toNat < n - ((q : Nat) : Int).toNat := by omega
theorem ownFrom_le {α : Type} {B B' : Nat} {S : α → World → Prop} (h : OwnFrom B S) (hb : B ≤ B') : OwnFrom B' S := fun u X Y row hs hg hr => h u X Y row hs hg (fun r e => ⟨Nat.le_trans hb (hr r e).1, (hr r e).2⟩)
theorem ownFrom_below' {B : Nat} {p : World → Prop} (h : OwnFrom B (fun (_ : Unit) => p)) {X Y : World} (hb : Below X.heap.size X Y) (hp : p X) : p Y :=
  h () X Y none hp ⟨hb.os, hb.tape, hb.output, hb.size, fun i hi _ => hb.block i hi⟩ (fun r e => by cases e)
set_option maxRecDepth 100000 in
theorem cloneR_any (s : Value) (zs : List Int) (w : World) (h : IA w s zs) (hl : zs.length ≤ 1100000) : Calls Try.prog 123 #[s] w (fun e w' => ∃ g cap, e = .returned (.slice (some ⟨g, 0, none⟩) zs.length cap) ∧ OwnJ w' w.heap.size (.slice (some ⟨g, 0, none⟩) zs.length cap) zs ∧ Below w.heap.size w w') := by
  have hform : ∃ b off c, s = .slice (some ⟨b, off, none⟩) zs.length c := by obtain ⟨b, off, cap, rfl, _⟩ := h; exact ⟨_, _, _, rfl⟩
  have H := Lib.hid h
  obtain ⟨b, off, c, rfl⟩ := hform
  clear h
  have ho0 := OwnJ.new0 w (base := w.heap.size) (Nat.le_refl _)
  have hB0 : Below w.heap.size w (w.alloc (.cells #[] 2)) := (Below.refl _ _).alloc (Nat.le_refl _) _
  have HO0 := Lib.hid ho0
  have HB0 := Lib.hid hB0
  clear ho0 hB0
  have hq : ∀ w, (binOp .eql 25 (.slice (some ⟨b, off, none⟩) zs.length c) (.slice none 0 0)).run Try.prog w = .ok (.bool false) w := fun _ => by kernel_rfl
  go_enter Try.func123, Try.ntmps123
  go_wp2_with (at_builtin; refine wpList_append_intsE rfl _ _ rfl w.heap.size w.heap.size rfl HO0.out _ zs rfl (H.out.below HB0.out (Nat.le_refl _)) (by omega) (by simp) ?_; intro g cap w4 hO4 hg4)
  go_ret
  exact ⟨g, cap, rfl, hO4, HB0.out.grown hg4 (by simp) (fun r e => by cases e; exact Nat.le_refl _)⟩
set_option maxRecDepth 100000 in
theorem renFrom_any (a1 a2 a3 : Option Addr) (n1 n2 n3 c1 c2 c3 : Nat) (w : World) : Calls Try.prog 102 #[.slice a1 n1 c1, .slice a2 n2 c2, .slice a3 n3 c3] w fun e w' =>
    e = .returned (.func (.func 121) #[] #[.pointer (some ⟨w.heap.size + 1 + 1, 0, none⟩), .pointer (some ⟨w.heap.size + 1, 0, none⟩), .pointer (some ⟨w.heap.size, 0, none⟩)]) ∧
    w' = ((w.alloc (.cells #[.slice a1 n1 c1] 46)).alloc (.cells #[.slice a2 n2 c2] 46)).alloc (.cells #[.slice a3 n3 c3] 25) := by
  go_enter Try.func102, Try.ntmps102
  go_wp2
  go_ret
  exact ⟨rfl, rfl⟩
set_option maxRecDepth 1000000 in
def WI1 (E : Nat → Prop) (n b Bi Bt Bf Yb l p H capH d : Nat) (v : Value) (T1 T2 : Nat → Nat → Nat) (m : List (Option Nat)) (n0 : Nat) (J : List (List (Option Nat)) → Nat → World → Prop) (a' : Act) (w' : World) : Prop :=
  ∃ (q k0 : Nat) (ds : List Deferred) (u6 u7 u8 u9 u10 u11 u12 u13 u24 u25 u26 u27 u28 u29 u30 u31 u32 u33 u34 u35 u36 u37 u38 u39 u40 u41 u42 u43 u44 u45 u46 u47 u48 u49 u50 u51 u52 u53 u54 u55 u56 u57 u58 u59 u60 u61 u62 u63 u64 u65 u66 u67 u68 u69 u70 u71 u72 u73 u74 u75 u76 u77 u78 u79 u80 u81 u82 u83 u84 u85 u86 u87 u88 u89 u90 u91 u92 u93 u94 u95 u96 u97 u98 u99 u100 u101 u102 u103 u104 u105 u106 u107 u108 u109 u110 u111 u112 u113 u114 u115 u116 u117 u118 u119 u120 u121 u122 : Value), q ≤ n ∧ k0 ≤ w'.heap.size ∧ J (doneR n T1 T2 d m p q) k0 w' ∧ RenS E n b Bi Bt Bf Yb l v T1 T2 m w' ∧ n0 ≤ w'.heap.size ∧ Marks n0 w' w'.heap.size ds ∧ a' = { tmps := #[.func (.yield l) #[] #[], .pointer (some ⟨Bi, 0, none⟩), .pointer (some ⟨Bt, 0, none⟩), .pointer (some ⟨Bf, 0, none⟩), .pointer (some ⟨Yb, 0, none⟩), .int .i64 (p : Int), u6, u7, u8, u9, u10, u11, u12, u13, v, .int .i64 (p : Int), .int .i64 (p : Int), .bool false, undef, undef, undef, .slice (some ⟨H, 0, none⟩) n capH, .int .i64 (n : Int), .int .i64 (q : Int), u24, u25, u26, u27, u28, u29, u30, u31, u32, u33, u34, u35, u36, u37, u38, u39, u40, u41, u42, u43, u44, u45, u46, u47, u48, u49, u50, u51, u52, u53, u54, u55, u56, u57, u58, u59, u60, u61, u62, u63, u64, u65, u66, u67, u68, u69, u70, u71, u72, u73, u74, u75, u76, u77, u78, u79, u80, u81, u82, u83, u84, u85, u86, u87, u88, u89, u90, u91, u92, u93, u94, u95, u96, u97, u98, u99, u100, u101, u102, u103, u104, u105, u106, u107, u108, u109, u110, u111, u112, u113, u114, u115, u116, u117, u118, u119, u120, u121, u122], defers := ds }
set_option maxRecDepth 1000000 in
set_option maxHeartbeats 8000000 in
theorem ren_node (n : Nat) (E : Nat → Prop) (T1 T2 : Nat → Nat → Nat) (hT1 : Thd n T1) (hT2 : Thd n T2) (hn1 : 1 < n) (hn : n ≤ 15) (d : Nat)
    (ih : ∀ (m : List (Option Nat)) (b Bi Bt Bf : Nat) (v : Value) (W : World), Cl n T1 T2 m [] → unk m ≤ d → Boxed W Bi 25 v → ¬ E Bi → OwnE W E b v (encM m) → TbE W E Bf n T1 → TbE W E Bt n T2 → (∀ i, E i → i < W.heap.size) → b ≤ W.heap.size →
      SeqR Fence.wide 9 Try.prog 121 #[.pointer (some ⟨Bi, 0, none⟩), .pointer (some ⟨Bt, 0, none⟩), .pointer (some ⟨Bf, 0, none⟩)] (RenR E n T1 T2) E (fun xs => xs = rens n T1 T2 d m) (fun pre => pre <+: rens n T1 T2 d m) (rens n T1 T2 d m).length b W)
    (m : List (Option Nat)) (p : Nat) (hfi : m.findIdx? Option.isNone = some p) (hC : Cl n T1 T2 m []) (hu : unk m ≤ d + 1) (b Bi Bt Bf : Nat) (v : Value) (W : World) (hX : Boxed W Bi 25 v) (hEi : ¬ E Bi) (hO : OwnE W E b v (encM m)) (hF : TbE W E Bf n T1) (hT : TbE W E Bt n T2) (hE : ∀ i, E i → i < W.heap.size) (hb : b ≤ W.heap.size) :
    SeqR Fence.wide 9 Try.prog 121 #[.pointer (some ⟨Bi, 0, none⟩), .pointer (some ⟨Bt, 0, none⟩), .pointer (some ⟨Bf, 0, none⟩)] (RenR E n T1 T2) E (fun xs => xs = rens n T1 T2 (d + 1) m) (fun pre => pre <+: rens n T1 T2 (d + 1) m) (rens n T1 T2 (d + 1) m).length b W := by
  rw [rens_done hfi]
  intro l J Jx hJ hJx hY h0
  have hro : Fence.wide.round = none := rfl
  obtain ⟨hp, hpn, -⟩ := find_some hfi
  rw [hC.len] at hp
  have hlen : (encM m).length = n := by rw [encM_len, hC.len]
  obtain ⟨g, cap, rfl⟩ := hO.1.someR (by rw [hlen]; omega)
  have hpos := posL_enc m 0
  rw [hfi] at hpos
  dsimp only at hpos
  rw [Nat.zero_add] at hpos
  have hIx : ∀ W' : World, OwnJ W' b (.slice (some ⟨g, 0, none⟩) (encM m).length cap) (encM m) → CallsIn Fence.wide 8 Try.prog 122 #[.slice (some ⟨g, 0, none⟩) (encM m).length cap, .int .i64 (-1)] W' fun e w' => e = .returned (.int .i64 (p : Int)) ∧ W' = w' := fun W' h' => by
    obtain ⟨b', off', cap', e1, _, e3⟩ := h'.ia (by rw [hlen]; omega)
    cases e1
    have := callsIn_wide (n := 8).2 (IndexP_any g 0 cap (encM m) (-1) W' e3 (by rw [hlen]; omega))
    rw [hpos] at this
    exact this
  have hp0 : decide ((p : Int) < 0) = false := by simp
  obtain ⟨W1, hW1⟩ : ∃ W1, W1 = W.alloc (.cells #[.func (.yield l) #[] #[]] 92) := ⟨_, rfl⟩
  have hB1 : Below W.heap.size W W1 := by rw [hW1]; exact (Below.refl _ _).alloc (Nat.le_refl _) _
  have hz1 : W1.heap.size = W.heap.size + 1 := by rw [hW1]; simp
  have hJ1 : J [] b W1 := ownFrom_below' (hJ [] b) hB1 h0
  have hk1 : CK E W W1 := CK.of_below hB1
  have hYb : Boxed W1 W.heap.size 92 (.func (.yield l) #[] #[]) := by rw [hW1]; exact Boxed.new W _ _
  have hR1 : RenS E n b Bi Bt Bf W.heap.size l (.slice (some ⟨g, 0, none⟩) (encM m).length cap) T1 T2 m W1 := ⟨⟨hYb, fun e => by have := hE _ e; omega⟩, ⟨hk1.boxed hX hEi, hEi⟩, hO.ck hk1, hF.ck hk1, hT.ck hk1⟩
  have HI := Lib.hid (hIx W1 hR1.2.2.1.1)
  have hc1 := (hR1.2.1.1).cell
  obtain ⟨H, capH, hTB⟩ : ∃ H capH, W1.cell? ⟨Bt, 0, none⟩ = some (.slice (some ⟨H, 0, none⟩) n capH) := by
    obtain ⟨G, c, _, _, _, _, _, h4, _⟩ := hR1.2.2.2.2
    exact ⟨G, c, h4⟩
  have HY := Lib.hid hY
  have HIH := Lib.hid ih
  have HJ := Lib.hid hJ
  have HJx := Lib.hid hJx
  clear hIx hO hX hF hT hY ih h0 hJ hJx hk1 hYb hB1 hpos hfi
  rw [hlen] at HI hc1 hR1
  rw [hW1] at HI hc1 hTB
  clear hlen
  refine callsIn_of_wp_marks Try.func121 rfl trivial ?_ hro
  simp only [Try.ntmps121, List.size_toArray, List.length_cons, List.length_nil, Nat.reduceAdd, Nat.reduceSub, Array.replicate_succ, Array.replicate_zero, List.push_toArray, List.append_toArray, List.nil_append, List.cons_append]
  gi_wp2
  refine wpIn_wide.2 ?_
  go_step3
  refine wpIn_wide (n := 9).1 ?_
  gi_wp2_with (first
    | (refine ⟨trivial, ?_⟩; gi_at_call 122; refine HI.out.mono ?_; rintro e w1 ⟨rfl, rfl⟩))
  refine wpIn_label ?_
  gi_wp2
  clear HI hc1 hp0 hTB
  rw [← hW1]
  refine wpIn_loop (fun a' w' => WI1 E n b Bi Bt Bf W.heap.size l p H capH d (.slice (some ⟨g, 0, none⟩) n cap) T1 T2 m W.heap.size J a' w') (fun a' _ => n - (intOf (a'.tmps.getD 23 undef)).toNat) ?_ ?_
  · exact ⟨0, b, [], _, _, _, _, _, _, _, _, _, _, _, _, _, _, _, _, _, _, _, _, _, _, _, _, _, _, _, _, _, _, _, _, _, _, _, _, _, _, _, _, _, _, _, _, _, _, _, _, _, _, _, _, _, _, _, _, _, _, _, _, _, _, _, _, _, _, _, _, _, _, _, _, _, _, _, _, _, _, _, _, _, _, _, _, _, _, _, _, _, _, _, _, _, _, _, _, _, _, _, _, _, _, _, _, _, _, _, Nat.zero_le _, by omega, hJ1, hR1, by omega, trivial, rfl⟩
  clear hJ1 hR1
  intro a' wr hI
  obtain ⟨q, k0, ds, hI⟩ := hI
  obtain ⟨u6, hI⟩ := hI
  obtain ⟨u7, hI⟩ := hI
  obtain ⟨u8, hI⟩ := hI
  obtain ⟨u9, hI⟩ := hI
  obtain ⟨u10, hI⟩ := hI
  obtain ⟨u11, hI⟩ := hI
  obtain ⟨u12, hI⟩ := hI
  obtain ⟨u13, hI⟩ := hI
  obtain ⟨u24, hI⟩ := hI
  obtain ⟨u25, hI⟩ := hI
  obtain ⟨u26, hI⟩ := hI
  obtain ⟨u27, hI⟩ := hI
  obtain ⟨u28, hI⟩ := hI
  obtain ⟨u29, hI⟩ := hI
  obtain ⟨u30, hI⟩ := hI
  obtain ⟨u31, hI⟩ := hI
  obtain ⟨u32, hI⟩ := hI
  obtain ⟨u33, hI⟩ := hI
  obtain ⟨u34, hI⟩ := hI
  obtain ⟨u35, hI⟩ := hI
  obtain ⟨u36, hI⟩ := hI
  obtain ⟨u37, hI⟩ := hI
  obtain ⟨u38, hI⟩ := hI
  obtain ⟨u39, hI⟩ := hI
  obtain ⟨u40, hI⟩ := hI
  obtain ⟨u41, hI⟩ := hI
  obtain ⟨u42, hI⟩ := hI
  obtain ⟨u43, hI⟩ := hI
  obtain ⟨u44, hI⟩ := hI
  obtain ⟨u45, hI⟩ := hI
  obtain ⟨u46, hI⟩ := hI
  obtain ⟨u47, hI⟩ := hI
  obtain ⟨u48, hI⟩ := hI
  obtain ⟨u49, hI⟩ := hI
  obtain ⟨u50, hI⟩ := hI
  obtain ⟨u51, hI⟩ := hI
  obtain ⟨u52, hI⟩ := hI
  obtain ⟨u53, hI⟩ := hI
  obtain ⟨u54, hI⟩ := hI
  obtain ⟨u55, hI⟩ := hI
  obtain ⟨u56, hI⟩ := hI
  obtain ⟨u57, hI⟩ := hI
  obtain ⟨u58, hI⟩ := hI
  obtain ⟨u59, hI⟩ := hI
  obtain ⟨u60, hI⟩ := hI
  obtain ⟨u61, hI⟩ := hI
  obtain ⟨u62, hI⟩ := hI
  obtain ⟨u63, hI⟩ := hI
  obtain ⟨u64, hI⟩ := hI
  obtain ⟨u65, hI⟩ := hI
  obtain ⟨u66, hI⟩ := hI
  obtain ⟨u67, hI⟩ := hI
  obtain ⟨u68, hI⟩ := hI
  obtain ⟨u69, hI⟩ := hI
  obtain ⟨u70, hI⟩ := hI
  obtain ⟨u71, hI⟩ := hI
  obtain ⟨u72, hI⟩ := hI
  obtain ⟨u73, hI⟩ := hI
  obtain ⟨u74, hI⟩ := hI
  obtain ⟨u75, hI⟩ := hI
  obtain ⟨u76, hI⟩ := hI
  obtain ⟨u77, hI⟩ := hI
  obtain ⟨u78, hI⟩ := hI
  obtain ⟨u79, hI⟩ := hI
  obtain ⟨u80, hI⟩ := hI
  obtain ⟨u81, hI⟩ := hI
  obtain ⟨u82, hI⟩ := hI
  obtain ⟨u83, hI⟩ := hI
  obtain ⟨u84, hI⟩ := hI
  obtain ⟨u85, hI⟩ := hI
  obtain ⟨u86, hI⟩ := hI
  obtain ⟨u87, hI⟩ := hI
  obtain ⟨u88, hI⟩ := hI
  obtain ⟨u89, hI⟩ := hI
  obtain ⟨u90, hI⟩ := hI
  obtain ⟨u91, hI⟩ := hI
  obtain ⟨u92, hI⟩ := hI
  obtain ⟨u93, hI⟩ := hI
  obtain ⟨u94, hI⟩ := hI
  obtain ⟨u95, hI⟩ := hI
  obtain ⟨u96, hI⟩ := hI
  obtain ⟨u97, hI⟩ := hI
  obtain ⟨u98, hI⟩ := hI
  obtain ⟨u99, hI⟩ := hI
  obtain ⟨u100, hI⟩ := hI
  obtain ⟨u101, hI⟩ := hI
  obtain ⟨u102, hI⟩ := hI
  obtain ⟨u103, hI⟩ := hI
  obtain ⟨u104, hI⟩ := hI
  obtain ⟨u105, hI⟩ := hI
  obtain ⟨u106, hI⟩ := hI
  obtain ⟨u107, hI⟩ := hI
  obtain ⟨u108, hI⟩ := hI
  obtain ⟨u109, hI⟩ := hI
  obtain ⟨u110, hI⟩ := hI
  obtain ⟨u111, hI⟩ := hI
  obtain ⟨u112, hI⟩ := hI
  obtain ⟨u113, hI⟩ := hI
  obtain ⟨u114, hI⟩ := hI
  obtain ⟨u115, hI⟩ := hI
  obtain ⟨u116, hI⟩ := hI
  obtain ⟨u117, hI⟩ := hI
  obtain ⟨u118, hI⟩ := hI
  obtain ⟨u119, hI⟩ := hI
  obtain ⟨u120, hI⟩ := hI
  obtain ⟨u121, hI⟩ := hI
  obtain ⟨u122, hI⟩ := hI
  obtain ⟨hq, hk0, hJr, hR, hzr, hM, ha⟩ := hI
  dsimp only at ha
  subst ha
  by_cases hqn : q < n
  · have hOr := hR.2.2.1
    have hzm : (encM m).length = n := by rw [encM_len, hC.len]
    have hcl := cloneR_any _ (encM m) wr (hOr.1.ia (by omega)) (by omega)
    rw [hzm] at hcl
    have HCL := Lib.hid (callsIn_wide (n := 8).2 hcl)
    have hxc := hR.2.1.1.cell
    clear hcl hOr hzm
    gi_wp2_with (first
      | (refine ⟨trivial, ?_⟩; gi_at_call 123; refine HCL.out.mono ?_; rintro e w2 ⟨g1, cap1, rfl, hO2, hb2⟩))
    obtain ⟨w3, hw3⟩ : ∃ w3, w3 = w2.alloc (.cells #[.int .i64 (p : Int), .int .i64 (q : Int)] 124) := ⟨_, rfl⟩
    have hb3 : Below wr.heap.size wr w3 := hb2.trans (by rw [hw3]; exact (Below.refl _ _).alloc hb2.size _)
    have hQ3 : QuP w3 w2.heap.size (.slice (some ⟨w2.heap.size, 0, none⟩) 1 1) (castP [(p, q)]) := by rw [hw3]; exact QuP.one w2 (Nat.le_refl _) p q
    have hO3 : OwnJ w3 wr.heap.size (.slice (some ⟨g1, 0, none⟩) n cap1) (encM m) := by rw [hw3]; exact hO2.alloc _
    have hg1a := (hO2.atR (i := 0) (by rw [encM_len, hC.len]; omega)).2.1
    have hg1b := (hO2.atR (i := 0) (by rw [encM_len, hC.len]; omega)).2.2.1
    have hz3 : w2.heap.size ≤ w3.heap.size := by rw [hw3]; simp
    have hmu : mu n m [(p, q)] ≤ 10000 := by
      have h1 : unk m ≤ n := by rw [← hC.len]; exact List.countP_le_length
      have h2 : unk m * (n + 1) ≤ 15 * 16 := Nat.mul_le_mul (by omega) (by omega)
      unfold mu
      simp
      omega
    have hT3 : TbR w3 wr.heap.size Bt n T2 := (hR.2.2.2.2.tbR hn1).below hb3 (Nat.le_refl _)
    have hF3 : TbR w3 wr.heap.size Bf n T1 := (hR.2.2.2.1.tbR hn1).below hb3 (Nat.le_refl _)
    rw [← hw3]
    clear hw3 hO2 HCL hxc
    refine wpIn_wide.2 (wp_calm ?_)
    refine ren2_loop (m := m) (op := [(p, q)]) (lo := wr.heap.size) (q0 := w2.heap.size) hn hT1 hT2 (hC.more _) (opl_one hp hqn) hmu hF3 hT3 hg1b hO3 hb2.size hz3 _ _ _ _ _ _ _ _ _ _ _ _ _ _ _ _ _ _ _ _ _ _ _ _ _ _ _ _ _ _ _ _ _ _ _ ?hq ?hfail ?hdone _ _ _ _ _ _ _ _ _ _ _ _ _ _ _ _ _ _ _ _ _ _ _ _ _ _ _ _ _ _ _ _ _ _ _ _ _ _ _ _ _ _ _ _ _ _ _ _ _ _ _ _ _ _ _ _ _ _ _ _ _ _ _ _ _ _ _ _ _ _ _ _ _ _ _ _ _ _ _ _ _ _ _ _ _ _ hQ3
    case hq => exact fun c a a' w h => absurd rfl (h.1 c)
    case hfail =>
      intro hno a' w' hI
      obtain ⟨x8, hI⟩ := hI
      obtain ⟨x9, hI⟩ := hI
      obtain ⟨x10, hI⟩ := hI
      obtain ⟨x11, hI⟩ := hI
      obtain ⟨x12, hI⟩ := hI
      obtain ⟨x32, hI⟩ := hI
      obtain ⟨x33, hI⟩ := hI
      obtain ⟨x34, hI⟩ := hI
      obtain ⟨x35, hI⟩ := hI
      obtain ⟨x36, hI⟩ := hI
      obtain ⟨x37, hI⟩ := hI
      obtain ⟨x38, hI⟩ := hI
      obtain ⟨x39, hI⟩ := hI
      obtain ⟨x40, hI⟩ := hI
      obtain ⟨x41, hI⟩ := hI
      obtain ⟨x42, hI⟩ := hI
      obtain ⟨x43, hI⟩ := hI
      obtain ⟨x44, hI⟩ := hI
      obtain ⟨x45, hI⟩ := hI
      obtain ⟨x46, hI⟩ := hI
      obtain ⟨x47, hI⟩ := hI
      obtain ⟨x48, hI⟩ := hI
      obtain ⟨x49, hI⟩ := hI
      obtain ⟨x50, hI⟩ := hI
      obtain ⟨x51, hI⟩ := hI
      obtain ⟨x52, hI⟩ := hI
      obtain ⟨x53, hI⟩ := hI
      obtain ⟨x54, hI⟩ := hI
      obtain ⟨x55, hI⟩ := hI
      obtain ⟨x56, hI⟩ := hI
      obtain ⟨x57, hI⟩ := hI
      obtain ⟨x58, hI⟩ := hI
      obtain ⟨x59, hI⟩ := hI
      obtain ⟨x60, hI⟩ := hI
      obtain ⟨x61, hI⟩ := hI
      obtain ⟨x62, hI⟩ := hI
      obtain ⟨x63, hI⟩ := hI
      obtain ⟨x64, hI⟩ := hI
      obtain ⟨x65, hI⟩ := hI
      obtain ⟨x66, hI⟩ := hI
      obtain ⟨x67, hI⟩ := hI
      obtain ⟨x68, hI⟩ := hI
      obtain ⟨x69, hI⟩ := hI
      obtain ⟨x70, hI⟩ := hI
      obtain ⟨x71, hI⟩ := hI
      obtain ⟨x72, hI⟩ := hI
      obtain ⟨x73, hI⟩ := hI
      obtain ⟨x74, hI⟩ := hI
      obtain ⟨x75, hI⟩ := hI
      obtain ⟨x76, hI⟩ := hI
      obtain ⟨x77, hI⟩ := hI
      obtain ⟨x78, hI⟩ := hI
      obtain ⟨x79, hI⟩ := hI
      obtain ⟨x80, hI⟩ := hI
      obtain ⟨x81, hI⟩ := hI
      obtain ⟨x82, hI⟩ := hI
      obtain ⟨x83, hI⟩ := hI
      obtain ⟨x84, hI⟩ := hI
      obtain ⟨x85, hI⟩ := hI
      obtain ⟨x86, hI⟩ := hI
      obtain ⟨x87, hI⟩ := hI
      obtain ⟨x88, hI⟩ := hI
      obtain ⟨x89, hI⟩ := hI
      obtain ⟨x90, hI⟩ := hI
      obtain ⟨x91, hI⟩ := hI
      obtain ⟨x92, hI⟩ := hI
      obtain ⟨x93, hI⟩ := hI
      obtain ⟨x94, hI⟩ := hI
      obtain ⟨x95, hI⟩ := hI
      obtain ⟨x96, hI⟩ := hI
      obtain ⟨x97, hI⟩ := hI
      obtain ⟨x98, hI⟩ := hI
      obtain ⟨x99, hI⟩ := hI
      obtain ⟨x100, hI⟩ := hI
      obtain ⟨x101, hI⟩ := hI
      obtain ⟨x102, hI⟩ := hI
      obtain ⟨x103, hI⟩ := hI
      obtain ⟨x104, hI⟩ := hI
      obtain ⟨x105, hI⟩ := hI
      obtain ⟨x106, hI⟩ := hI
      obtain ⟨x107, hI⟩ := hI
      obtain ⟨x108, hI⟩ := hI
      obtain ⟨x109, hI⟩ := hI
      obtain ⟨x110, hI⟩ := hI
      obtain ⟨x111, hI⟩ := hI
      obtain ⟨x112, hI⟩ := hI
      obtain ⟨hB', hz', ha⟩ := hI
      dsimp only at ha
      subst ha
      refine ⟨fun _ h => (by cases h), ?_⟩
      have hbw : Below wr.heap.size wr w' := hb3.trans hB'
      have hJ' : J (doneR n T1 T2 d m p (q + 1)) k0 w' := by
        rw [doneR_succ, show propR n T1 T2 m p q = none from hno, List.append_nil]
        exact ownFrom_below' (ownFrom_le (HJ.out _ _) (Nat.le_refl _)) hbw hJr
      gi_wp2
      rw [show ((q : Int) + 1) = ((q + 1 : Nat) : Int) by omega]
      refine ⟨⟨q + 1, k0, ds, _, _, _, _, _, _, _, _, _, _, _, _, _, _, _, _, _, _, _, _, _, _, _, _, _, _, _, _, _, _, _, _, _, _, _, _, _, _, _, _, _, _, _, _, _, _, _, _, _, _, _, _, _, _, _, _, _, _, _, _, _, _, _, _, _, _, _, _, _, _, _, _, _, _, _, _, _, _, _, _, _, _, _, _, _, _, _, _, _, _, _, _, _, _, _, _, _, _, _, _, _, _, _, _, _, _, _, hqn, Nat.le_trans hk0 hbw.size, hJ', hR.ck (CK.of_below hbw), Nat.le_trans hzr hbw.size, (hM.kept2 fun D _ hD e => (hbw.block D hD).trans e).mono hbw.size, rfl⟩, ?_⟩
      exact meas_nat hqn
    case hdone =>
      intro m' hsome a' w' hI
      obtain ⟨x8, hI⟩ := hI
      obtain ⟨x9, hI⟩ := hI
      obtain ⟨x10, hI⟩ := hI
      obtain ⟨x11, hI⟩ := hI
      obtain ⟨x12, hI⟩ := hI
      obtain ⟨x32, hI⟩ := hI
      obtain ⟨x33, hI⟩ := hI
      obtain ⟨x34, hI⟩ := hI
      obtain ⟨x35, hI⟩ := hI
      obtain ⟨x36, hI⟩ := hI
      obtain ⟨x37, hI⟩ := hI
      obtain ⟨x38, hI⟩ := hI
      obtain ⟨x39, hI⟩ := hI
      obtain ⟨x40, hI⟩ := hI
      obtain ⟨x41, hI⟩ := hI
      obtain ⟨x42, hI⟩ := hI
      obtain ⟨x43, hI⟩ := hI
      obtain ⟨x44, hI⟩ := hI
      obtain ⟨x45, hI⟩ := hI
      obtain ⟨x46, hI⟩ := hI
      obtain ⟨x47, hI⟩ := hI
      obtain ⟨x48, hI⟩ := hI
      obtain ⟨x49, hI⟩ := hI
      obtain ⟨x50, hI⟩ := hI
      obtain ⟨x51, hI⟩ := hI
      obtain ⟨x52, hI⟩ := hI
      obtain ⟨x53, hI⟩ := hI
      obtain ⟨x54, hI⟩ := hI
      obtain ⟨x55, hI⟩ := hI
      obtain ⟨x56, hI⟩ := hI
      obtain ⟨x57, hI⟩ := hI
      obtain ⟨x58, hI⟩ := hI
      obtain ⟨x59, hI⟩ := hI
      obtain ⟨x60, hI⟩ := hI
      obtain ⟨x61, hI⟩ := hI
      obtain ⟨x62, hI⟩ := hI
      obtain ⟨x63, hI⟩ := hI
      obtain ⟨x64, hI⟩ := hI
      obtain ⟨x65, hI⟩ := hI
      obtain ⟨x66, hI⟩ := hI
      obtain ⟨x67, hI⟩ := hI
      obtain ⟨x68, hI⟩ := hI
      obtain ⟨x69, hI⟩ := hI
      obtain ⟨x70, hI⟩ := hI
      obtain ⟨x71, hI⟩ := hI
      obtain ⟨x72, hI⟩ := hI
      obtain ⟨x73, hI⟩ := hI
      obtain ⟨x74, hI⟩ := hI
      obtain ⟨x75, hI⟩ := hI
      obtain ⟨x76, hI⟩ := hI
      obtain ⟨x77, hI⟩ := hI
      obtain ⟨x78, hI⟩ := hI
      obtain ⟨x79, hI⟩ := hI
      obtain ⟨x80, hI⟩ := hI
      obtain ⟨x81, hI⟩ := hI
      obtain ⟨x82, hI⟩ := hI
      obtain ⟨x83, hI⟩ := hI
      obtain ⟨x84, hI⟩ := hI
      obtain ⟨x85, hI⟩ := hI
      obtain ⟨x86, hI⟩ := hI
      obtain ⟨x87, hI⟩ := hI
      obtain ⟨x88, hI⟩ := hI
      obtain ⟨x89, hI⟩ := hI
      obtain ⟨x90, hI⟩ := hI
      obtain ⟨x91, hI⟩ := hI
      obtain ⟨x92, hI⟩ := hI
      obtain ⟨x93, hI⟩ := hI
      obtain ⟨x94, hI⟩ := hI
      obtain ⟨x95, hI⟩ := hI
      obtain ⟨x96, hI⟩ := hI
      obtain ⟨x97, hI⟩ := hI
      obtain ⟨x98, hI⟩ := hI
      obtain ⟨x99, hI⟩ := hI
      obtain ⟨x100, hI⟩ := hI
      obtain ⟨x101, hI⟩ := hI
      obtain ⟨x102, hI⟩ := hI
      obtain ⟨x103, hI⟩ := hI
      obtain ⟨x104, hI⟩ := hI
      obtain ⟨x105, hI⟩ := hI
      obtain ⟨x106, hI⟩ := hI
      obtain ⟨x107, hI⟩ := hI
      obtain ⟨x108, hI⟩ := hI
      obtain ⟨x109, hI⟩ := hI
      obtain ⟨x110, hI⟩ := hI
      obtain ⟨x111, hI⟩ := hI
      obtain ⟨x112, hI⟩ := hI
      obtain ⟨hO', hB', hz', ha⟩ := hI
      dsimp only at ha
      subst ha
      refine ⟨fun _ h => (by cases h), ?_⟩
      have hbw : Below wr.heap.size wr w' := hb3.trans hB'
      have hck : CK E wr w' := CK.of_below hbw
      have hR' := hR.ck hck
      have hJ' := ownFrom_below' (ownFrom_le (HJ.out _ _) (Nat.le_refl _)) hbw hJr
      obtain ⟨G1, cG1, gs1, cs1, e11, e12, e13, e14, e15, e16⟩ := hR'.2.2.2.1
      obtain ⟨G2, cG2, gs2, cs2, e21, e22, e23, e24, e25, e26⟩ := hR'.2.2.2.2
      have hM' := hM.kept2 (W' := w') fun D _ hD e => (hbw.block D hD).trans e
      obtain ⟨hC', hex, hpq, -⟩ := propR_some hT1 hT2 hC hp hqn hsome
      have hud : unk m' ≤ d := by
        have := unk_lt (hC.len.trans hC'.len.symm) hex (by rw [hC.len]; exact hp) hpn hpq
        omega
      have hzw := hbw.size
      gi_wp2_with (first
        | (refine ⟨trivial, ?_⟩; gi_at_call 102; refine (callsIn_wide.2 (renFrom_any _ _ _ _ _ _ _ _ _ w')).mono ?_; rintro e w4 ⟨rfl, hw4⟩; have HW4 := Lib.hid hw4; clear hw4))
      have hw4 := HW4.out
      clear HW4
      have hb4 : Below w'.heap.size w' w4 := by rw [hw4]; exact (((Below.refl _ _).alloc (Nat.le_refl _) _).alloc (by simp) _).alloc (by simp <;> omega) _
      have hz4 : w4.heap.size = w'.heap.size + 1 + 1 + 1 := by rw [hw4]; simp
      have hx1 : Boxed w4 w'.heap.size 46 (.slice (some ⟨G1, 0, none⟩) n cG1) := by rw [hw4]; exact ((Boxed.new w' _ _).alloc _).alloc _
      have hx2 : Boxed w4 (w'.heap.size + 1) 46 (.slice (some ⟨G2, 0, none⟩) n cG2) := by
        have := (Boxed.new (w'.alloc (.cells #[.slice (some ⟨G1, 0, none⟩) n cG1] 46)) 46 (.slice (some ⟨G2, 0, none⟩) n cG2)).alloc (.cells #[.slice (some ⟨g1, 0, none⟩) n cap1] 25)
        rw [World.size_alloc] at this
        rw [hw4]
        exact this
      have hx3 : Boxed w4 (w'.heap.size + 1 + 1) 25 (.slice (some ⟨g1, 0, none⟩) n cap1) := by
        have := Boxed.new ((w'.alloc (.cells #[.slice (some ⟨G1, 0, none⟩) n cG1] 46)).alloc (.cells #[.slice (some ⟨G2, 0, none⟩) n cG2] 46)) 25 (.slice (some ⟨g1, 0, none⟩) n cap1)
        simp only [World.size_alloc] at this
        rw [hw4]
        exact this
      have hck4 : CK E w' w4 := CK.of_below hb4
      have hnE : ∀ i, W.heap.size ≤ i → ¬ E i := fun i h e => by have := hE i e; omega
      have ht1 : TbE w4 E w'.heap.size n T1 := ⟨G1, cG1, gs1, cs1, hnE _ (by omega), e12, e13, hx1.cell, fun a ha => hck4.cell (e15 a ha) e12, fun a c ha hc hne => hck4.cell (e16 a c ha hc hne) (e13 a ha)⟩
      have ht2 : TbE w4 E (w'.heap.size + 1) n T2 := ⟨G2, cG2, gs2, cs2, hnE _ (by omega), e22, e23, hx2.cell, fun a ha => hck4.cell (e25 a ha) e22, fun a c ha hc hne => hck4.cell (e26 a c ha hc hne) (e23 a ha)⟩
      have ho4 : OwnE w4 E k0 (.slice (some ⟨g1, 0, none⟩) n cap1) (encM m') := ⟨(hO'.baseD hk0).below hb4 (Nat.le_refl _), fun r e => by
        obtain rfl : g1 = r := by simpa [Value.ownBlock] using e
        exact hnE _ (Nat.le_trans hzr hg1a)⟩
      have HSQ := Lib.hid fun W5 (hb : Below w4.heap.size w4 W5) => SeqR.any (n' := 9 - 1) (HIH.out m' k0 (w'.heap.size + 1 + 1) (w'.heap.size + 1) w'.heap.size (.slice (some ⟨g1, 0, none⟩) n cap1) W5 hC' hud ((CK.of_below (E := E) hb).boxed hx3 (hnE _ (by omega))) (hnE _ (by omega)) (ho4.ck (CK.of_below hb)) (ht1.ck (CK.of_below hb)) (ht2.ck (CK.of_below hb))
        (fun i e => by have := hE i e; have := hb.size; omega) (by have := hb.size; omega))
      have hN : ∀ pre : List (List (Option Nat)), pre.length < (rens n T1 T2 d m').length → (doneR n T1 T2 d m p q ++ pre).length < (doneR n T1 T2 d m p n).length := fun pre hlt => by
        have h1 := (doneR_stop (pre := rens n T1 T2 d m') hqn hsome (List.prefix_refl _)).length_le
        rw [List.length_append] at h1 ⊢
        omega
      have hJ4 := ownFrom_below' (ownFrom_le (HJ.out _ _) (by omega : W.heap.size ≤ W.heap.size)) hb4 hJ'
      have hR4 := hR'.ck hck4
      have hM4 : Marks W.heap.size w4 w4.heap.size ds := (hM'.kept2 (W' := w4) fun D _ hD e => (hb4.block D (Nat.lt_of_lt_of_le hD hzw)).trans e).mono (by omega)
      clear hw4 hb4 hx1 hx2 hx3 hck4 ht1 ht2 ho4 hM' hJ' hR' e11 e12 e13 e14 e15 e16 e21 e22 e23 e24 e25 e26 hO' hB' hbw hck hQ3 hO3 hF3 hT3 hb3 hb2 hg1a hg1b hz3 hmu hpq hex hC' hud hJr hR hM HIH
      refine wpIn_rangeFunc_R hro (by omega) (gf := 121) (lb := #[.pointer (some ⟨w'.heap.size + 1 + 1, 0, none⟩), .pointer (some ⟨w'.heap.size + 1, 0, none⟩), .pointer (some ⟨w'.heap.size, 0, none⟩)]) rfl trivial (enters_of Try.func121 (by kernel_rfl) rfl) rfl (fun i e => by have := hE i e; omega) HSQ.out
        (fun pre k W' => J (doneR n T1 T2 d m p q ++ pre) k W' ∧ k ≤ W'.heap.size ∧ RenS E n b Bi Bt Bf W.heap.size l (.slice (some ⟨g, 0, none⟩) n cap) T1 T2 m W' ∧ Marks W.heap.size W' w4.heap.size ds ∧ w4.heap.size ≤ W'.heap.size)
        (fun c pre k W' => c = .ret ∧ Jx (doneR n T1 T2 d m p q ++ pre) k W' ∧ Marks W.heap.size W' w4.heap.size ds)
        (fun pre k u X Y row hs hg hr => ⟨ownFrom_le (HJ.out _ _) (by omega) u X Y row hs.1 hg hr, Nat.le_trans hs.2.1 hg.size, hs.2.2.1.ck (CK.of_grown hg fun r e => (hr r e).2), hs.2.2.2.1.grown hg (fun r e => .inl (hr r e).1), Nat.le_trans hs.2.2.2.2 hg.size⟩)
        (fun c pre k u X Y row hs hg hr => ⟨hs.1, ownFrom_le (HJx.out _ _) (by omega) u X Y row hs.2.1 hg hr, hs.2.2.grown hg (fun r e => .inl (hr r e).1)⟩)
        ⟨by rw [List.append_nil]; exact hJ4, by omega, hR4, hM4, Nat.le_refl _⟩
        (fun x k vx a' W' => (∃ (y0 y1 y2 y3 y5 y6 y7 y8 y9 y10 y11 y12 y14 y15 y16 y17 y18 y19 y20 y21 y22 y23 y24 y25 y26 y27 y28 y29 y30 y31 y32 y33 y34 y35 y36 y37 y38 y39 y40 y41 y42 y43 y44 y45 y46 y47 y48 y49 y50 y51 y52 y53 y54 y55 y56 y57 y58 y59 y60 y61 y62 y63 y64 y65 y66 y67 y68 y69 y70 y71 y72 y73 y74 y75 y76 y77 y78 y79 y80 y81 y82 y83 y84 y85 y86 y87 y88 y89 y90 y91 y92 y93 y94 y95 y96 y97 y98 y99 y100 y101 y102 y103 y104 y105 y106 y107 y108 y109 y110 y111 y112 y113 y114 y115 y116 y117 y118 y119 y120 y121 y122 : Value), a' = { tmps := #[y0, y1, y2, y3, .pointer (some ⟨W.heap.size, 0, none⟩), y5, y6, y7, y8, y9, y10, y11, y12, vx, y14, y15, y16, y17, y18, y19, y20, y21, y22, y23, y24, y25, y26, y27, y28, y29, y30, y31, y32, y33, y34, y35, y36, y37, y38, y39, y40, y41, y42, y43, y44, y45, y46, y47, y48, y49, y50, y51, y52, y53, y54, y55, y56, y57, y58, y59, y60, y61, y62, y63, y64, y65, y66, y67, y68, y69, y70, y71, y72, y73, y74, y75, y76, y77, y78, y79, y80, y81, y82, y83, y84, y85, y86, y87, y88, y89, y90, y91, y92, y93, y94, y95, y96, y97, y98, y99, y100, y101, y102, y103, y104, y105, y106, y107, y108, y109, y110, y111, y112, y113, y114, y115, y116, y117, y118, y119, y120, y121, y122], defers := [] }) ∧ RenR E n T1 T2 x k vx W')
        (fun x k vx a' u X Y row hs hg hr => ⟨hs.1, OwnE.ck hs.2.1 (CK.of_grown hg fun r e => (hr r e).2), hs.2.2⟩) ?assign ?body ?done ?stop
      case assign =>
        intro l' pre x k vx W' K hi hRx hK
        obtain ⟨a9, c9, rfl⟩ := OwnJ.formS hRx.1.1
        simp only [List.zip_toArray, List.zip_cons_cons, List.zip_nil_right, List.size_toArray, List.length_cons, List.length_nil, List.foldl_toArray', List.foldl_cons, List.foldl_nil, List.setIfInBounds_toArray, List.set_cons_succ, List.set_cons_zero]
        gi_wp2
        exact hK _ _ (Kept.refl _ _ _) hi ⟨⟨_, _, _, _, _, _, _, _, _, _, _, _, _, _, _, _, _, _, _, _, _, _, _, _, _, _, _, _, _, _, _, _, _, _, _, _, _, _, _, _, _, _, _, _, _, _, _, _, _, _, _, _, _, _, _, _, _, _, _, _, _, _, _, _, _, _, _, _, _, _, _, _, _, _, _, _, _, _, _, _, _, _, _, _, _, _, _, _, _, _, _, _, _, _, _, _, _, _, _, _, _, _, _, _, _, _, _, _, _, _, _, _, _, _, _, _, _, _, _, _, _, rfl⟩, hRx⟩
      case body =>
        rintro l' pre x k vx a' W' hl' hloop ⟨i1, i2, i3, i4, i5⟩ ⟨hA, hRx⟩ hlen
        obtain ⟨y0, hA⟩ := hA
        obtain ⟨y1, hA⟩ := hA
        obtain ⟨y2, hA⟩ := hA
        obtain ⟨y3, hA⟩ := hA
        obtain ⟨y5, hA⟩ := hA
        obtain ⟨y6, hA⟩ := hA
        obtain ⟨y7, hA⟩ := hA
        obtain ⟨y8, hA⟩ := hA
        obtain ⟨y9, hA⟩ := hA
        obtain ⟨y10, hA⟩ := hA
        obtain ⟨y11, hA⟩ := hA
        obtain ⟨y12, hA⟩ := hA
        obtain ⟨y14, hA⟩ := hA
        obtain ⟨y15, hA⟩ := hA
        obtain ⟨y16, hA⟩ := hA
        obtain ⟨y17, hA⟩ := hA
        obtain ⟨y18, hA⟩ := hA
        obtain ⟨y19, hA⟩ := hA
        obtain ⟨y20, hA⟩ := hA
        obtain ⟨y21, hA⟩ := hA
        obtain ⟨y22, hA⟩ := hA
        obtain ⟨y23, hA⟩ := hA
        obtain ⟨y24, hA⟩ := hA
        obtain ⟨y25, hA⟩ := hA
        obtain ⟨y26, hA⟩ := hA
        obtain ⟨y27, hA⟩ := hA
        obtain ⟨y28, hA⟩ := hA
        obtain ⟨y29, hA⟩ := hA
        obtain ⟨y30, hA⟩ := hA
        obtain ⟨y31, hA⟩ := hA
        obtain ⟨y32, hA⟩ := hA
        obtain ⟨y33, hA⟩ := hA
        obtain ⟨y34, hA⟩ := hA
        obtain ⟨y35, hA⟩ := hA
        obtain ⟨y36, hA⟩ := hA
        obtain ⟨y37, hA⟩ := hA
        obtain ⟨y38, hA⟩ := hA
        obtain ⟨y39, hA⟩ := hA
        obtain ⟨y40, hA⟩ := hA
        obtain ⟨y41, hA⟩ := hA
        obtain ⟨y42, hA⟩ := hA
        obtain ⟨y43, hA⟩ := hA
        obtain ⟨y44, hA⟩ := hA
        obtain ⟨y45, hA⟩ := hA
        obtain ⟨y46, hA⟩ := hA
        obtain ⟨y47, hA⟩ := hA
        obtain ⟨y48, hA⟩ := hA
        obtain ⟨y49, hA⟩ := hA
        obtain ⟨y50, hA⟩ := hA
        obtain ⟨y51, hA⟩ := hA
        obtain ⟨y52, hA⟩ := hA
        obtain ⟨y53, hA⟩ := hA
        obtain ⟨y54, hA⟩ := hA
        obtain ⟨y55, hA⟩ := hA
        obtain ⟨y56, hA⟩ := hA
        obtain ⟨y57, hA⟩ := hA
        obtain ⟨y58, hA⟩ := hA
        obtain ⟨y59, hA⟩ := hA
        obtain ⟨y60, hA⟩ := hA
        obtain ⟨y61, hA⟩ := hA
        obtain ⟨y62, hA⟩ := hA
        obtain ⟨y63, hA⟩ := hA
        obtain ⟨y64, hA⟩ := hA
        obtain ⟨y65, hA⟩ := hA
        obtain ⟨y66, hA⟩ := hA
        obtain ⟨y67, hA⟩ := hA
        obtain ⟨y68, hA⟩ := hA
        obtain ⟨y69, hA⟩ := hA
        obtain ⟨y70, hA⟩ := hA
        obtain ⟨y71, hA⟩ := hA
        obtain ⟨y72, hA⟩ := hA
        obtain ⟨y73, hA⟩ := hA
        obtain ⟨y74, hA⟩ := hA
        obtain ⟨y75, hA⟩ := hA
        obtain ⟨y76, hA⟩ := hA
        obtain ⟨y77, hA⟩ := hA
        obtain ⟨y78, hA⟩ := hA
        obtain ⟨y79, hA⟩ := hA
        obtain ⟨y80, hA⟩ := hA
        obtain ⟨y81, hA⟩ := hA
        obtain ⟨y82, hA⟩ := hA
        obtain ⟨y83, hA⟩ := hA
        obtain ⟨y84, hA⟩ := hA
        obtain ⟨y85, hA⟩ := hA
        obtain ⟨y86, hA⟩ := hA
        obtain ⟨y87, hA⟩ := hA
        obtain ⟨y88, hA⟩ := hA
        obtain ⟨y89, hA⟩ := hA
        obtain ⟨y90, hA⟩ := hA
        obtain ⟨y91, hA⟩ := hA
        obtain ⟨y92, hA⟩ := hA
        obtain ⟨y93, hA⟩ := hA
        obtain ⟨y94, hA⟩ := hA
        obtain ⟨y95, hA⟩ := hA
        obtain ⟨y96, hA⟩ := hA
        obtain ⟨y97, hA⟩ := hA
        obtain ⟨y98, hA⟩ := hA
        obtain ⟨y99, hA⟩ := hA
        obtain ⟨y100, hA⟩ := hA
        obtain ⟨y101, hA⟩ := hA
        obtain ⟨y102, hA⟩ := hA
        obtain ⟨y103, hA⟩ := hA
        obtain ⟨y104, hA⟩ := hA
        obtain ⟨y105, hA⟩ := hA
        obtain ⟨y106, hA⟩ := hA
        obtain ⟨y107, hA⟩ := hA
        obtain ⟨y108, hA⟩ := hA
        obtain ⟨y109, hA⟩ := hA
        obtain ⟨y110, hA⟩ := hA
        obtain ⟨y111, hA⟩ := hA
        obtain ⟨y112, hA⟩ := hA
        obtain ⟨y113, hA⟩ := hA
        obtain ⟨y114, hA⟩ := hA
        obtain ⟨y115, hA⟩ := hA
        obtain ⟨y116, hA⟩ := hA
        obtain ⟨y117, hA⟩ := hA
        obtain ⟨y118, hA⟩ := hA
        obtain ⟨y119, hA⟩ := hA
        obtain ⟨y120, hA⟩ := hA
        obtain ⟨y121, hA⟩ := hA
        obtain ⟨y122, hA⟩ := hA
        dsimp only at hA
        subst hA
        obtain ⟨fn, tmps, assign, body, hy, hyR⟩ := HY.out _ x k vx W' i1 hRx (hN pre hlen)
        have hyb := i3.1.1.cell
        have HYR := Lib.hid hyR
        obtain ⟨a9, c9, rfl⟩ := OwnJ.formS hRx.1.1
        clear hyR hN HSQ hJ4 hR4 hM4
        gi_wp2
        refine (roundIn_in HYR.out).mono ?_
        rintro e W3 ⟨hk3, ⟨rfl, hJ3⟩ | ⟨rfl, hJ3⟩⟩
        · have hK3 : Kept w4.heap.size E W' W3 := hk3.mono (by omega) (fun _ e => e)
          have hM3 : Marks W.heap.size W3 w4.heap.size ds := i4.kept2 fun D h0 _ e => hk3.2 D _ e (hnE D h0) (.inl h0)
          rw [List.append_assoc] at hJ3
          gi_wp2
          exact ⟨hK3, hJ3, Nat.le_refl _, i3.ck (CK.of_kept hk3), hM3, Nat.le_trans i5 hk3.1⟩
        · have hK3 : Kept w4.heap.size E W' W3 := hk3.mono (by omega) (fun _ e => e)
          have hM3 : Marks W.heap.size W3 w4.heap.size ds := i4.kept2 fun D h0 _ e => hk3.2 D _ e (hnE D h0) (.inl h0)
          rw [List.append_assoc] at hJ3
          gi_wp2
          exact ⟨hK3, rfl, hJ3, hM3⟩
      case done =>
        rintro D ys k W' hD rfl ⟨i1, i2, i3, i4, i5⟩ hK
        have hJ5 : J (doneR n T1 T2 d m p (q + 1)) k W' := by
          rw [doneR_succ, show propR n T1 T2 m p q = some m' from hsome]
          exact i1
        have hM5 : Marks W.heap.size W' W'.heap.size ({ target := .collected D, args := #[] } :: ds) := ⟨D, rfl, by omega, (Array.getElem?_eq_some_iff.1 hK).1, hK, i4.mono hD⟩
        clear i1 i4 hJ4 hR4 hM4 hN HSQ hK
        gi_wp2
        rw [show ((q : Int) + 1) = ((q + 1 : Nat) : Int) by omega]
        refine ⟨⟨q + 1, k, _, _, _, _, _, _, _, _, _, _, _, _, _, _, _, _, _, _, _, _, _, _, _, _, _, _, _, _, _, _, _, _, _, _, _, _, _, _, _, _, _, _, _, _, _, _, _, _, _, _, _, _, _, _, _, _, _, _, _, _, _, _, _, _, _, _, _, _, _, _, _, _, _, _, _, _, _, _, _, _, _, _, _, _, _, _, _, _, _, _, _, _, _, _, _, _, _, _, _, _, _, _, _, _, _, _, _, _, hqn, i2, hJ5, i3, by omega, hM5, rfl⟩, ?_⟩
        exact meas_nat hqn
      case stop =>
        rintro D c pre k W' hD hSp ⟨rfl, i1, i2⟩ hK
        have hM5 : Marks W.heap.size W' W'.heap.size ({ target := .collected D, args := #[] } :: ds) := ⟨D, rfl, by omega, (Array.getElem?_eq_some_iff.1 hK).1, hK, i2.mono hD⟩
        have hpre := doneR_stop hqn hsome hSp
        clear hJ4 hR4 hM4 hN HSQ hK i2
        gi_wp2
        refine leaves_marks (n0 := W.heap.size) (fun W' => Jx (doneR n T1 T2 d m p q ++ pre) k W') ?_ ?_ _ W'.heap.size W' hM5 i1
        · intro W5 D' h1 hD' hK'
          exact (HJx.out _ _).putObj (s := ()) _ h1 hD' hK' rfl
        · intro W5 h1
          exact ⟨_, results_none rfl _ _ _, ⟨_, rfl⟩, .inr ⟨_, _, hpre, h1⟩⟩
  · obtain rfl : q = n := by omega
    gi_wp2
    refine leaves_marks (n0 := W.heap.size) (fun W' => J (doneR q T1 T2 d m p q) k0 W') ?_ ?_ ds wr.heap.size wr hM hJr
    · intro W' D h1 hD hK
      exact (HJ.out _ _).putObj (s := ()) _ h1 hD hK rfl
    · intro W' h1
      exact ⟨_, results_none rfl _ _ _, ⟨_, rfl⟩, .inl ⟨_, _, rfl, h1⟩⟩
/-- All renumberings that have the known images come, in their order. -/
theorem ren_any (n : Nat) (E : Nat → Prop) (T1 T2 : Nat → Nat → Nat) (hT1 : Thd n T1) (hT2 : Thd n T2) (hn1 : 1 < n) (hn : n ≤ 15) :
    ∀ (d : Nat) (m : List (Option Nat)) (b Bi Bt Bf : Nat) (v : Value) (W : World), Cl n T1 T2 m [] → unk m ≤ d → Boxed W Bi 25 v → ¬ E Bi → OwnE W E b v (encM m) → TbE W E Bf n T1 → TbE W E Bt n T2 → (∀ i, E i → i < W.heap.size) → b ≤ W.heap.size →
      SeqR Fence.wide 9 Try.prog 121 #[.pointer (some ⟨Bi, 0, none⟩), .pointer (some ⟨Bt, 0, none⟩), .pointer (some ⟨Bf, 0, none⟩)] (RenR E n T1 T2) E (fun xs => xs = rens n T1 T2 d m) (fun pre => pre <+: rens n T1 T2 d m) (rens n T1 T2 d m).length b W
  | 0, m, b, Bi, Bt, Bf, v, W, hC, hu, hX, _, hO, _, _, _, hb => by
    have hf : m.findIdx? Option.isNone = none := by
      cases hf : m.findIdx? Option.isNone with
      | none => rfl
      | some p =>
        obtain ⟨hp, hn, _⟩ := find_some hf
        have := unk_set (b := 0) hp hn
        omega
    exact ren_leaf n E T1 T2 m hC (by omega) hn hf b Bi _ _ v W hX hO hb
  | d + 1, m, b, Bi, Bt, Bf, v, W, hC, hu, hX, hEi, hO, hF, hT, hE, hb => by
    cases hf : m.findIdx? Option.isNone with
    | none =>
      have e : rens n T1 T2 (d + 1) m = [m] := by rw [rens, hf]
      rw [e]
      exact ren_leaf n E T1 T2 m hC (by omega) hn hf b Bi _ _ v W hX hO hb
    | some p => exact ren_node n E T1 T2 hT1 hT2 hn1 hn d (ren_any n E T1 T2 hT1 hT2 hn1 hn d) m p hf hC hu b Bi Bt Bf v W hX hEi hO hF hT hE hb
end Go.Proofs.Ytoicdfdfajfopaa

namespace Go.Proofs.Ytoicdfdfajfopaa
open Go.RowKit Go.Maps Go.Shelf
/-- What the caller may write behind a round: what it might, and what the round made. -/
def growE (E : Nat → Prop) (n1 : Nat) (W' : World) : Nat → Prop := fun i => E i ∨ (n1 ≤ i ∧ i < W'.heap.size)
/-- The contract of an iterator of references whose caller's rounds own memory of their own: E grows with each round. -/
def SeqD {α : Type} (F : Fence) (n : Nat) (P : Program) (g : Nat) (lb : Array Value) (R : α → Nat → (Nat → Prop) → Value → World → Prop) (E0 : Nat → Prop) (S Sp : List α → Prop) (N : Nat) (b : Nat) (W : World) : Prop :=
  ∀ (l : Nat) (J Jx : List α → Nat → (Nat → Prop) → World → Prop), (∀ pre k E, OwnFrom W.heap.size (fun (_ : Unit) => J pre k E)) → (∀ pre k E, OwnFrom W.heap.size (fun (_ : Unit) => Jx pre k E)) →
    (∀ pre x k E v W1, J pre k E W1 → R x k E v W1 → pre.length < N → YieldAt F (n - 1) P l #[v] W1 fun e W' =>
      Kept W.heap.size E W1 W' ∧ ((e = .returned (.bool true) ∧ J (pre ++ [x]) W'.heap.size (growE E W1.heap.size W') W') ∨ (e = .returned (.bool false) ∧ Jx (pre ++ [x]) W'.heap.size (growE E W1.heap.size W') W'))) →
    J [] b E0 W →
    CallsIn F n P g (#[.func (.yield l) #[] #[]] ++ lb) W fun e W' => (∃ v, e = .returned v) ∧ ((∃ xs k E, S xs ∧ J xs k E W') ∨ (∃ pre k E, Sp pre ∧ Jx pre k E W'))
theorem SeqD.any {α : Type} {n n' : Nat} {P : Program} {g : Nat} {lb : Array Value} {R : α → Nat → (Nat → Prop) → Value → World → Prop} {E : Nat → Prop} {S Sp : List α → Prop} {N b : Nat} {W : World}
    (h : SeqD Fence.wide n P g lb R E S Sp N b W) : SeqD Fence.wide n' P g lb R E S Sp N b W := fun l J Jx hJ hJx hY h0 =>
  callsIn_wide.2 (callsIn_wide.1 (h l J Jx hJ hJx (fun pre x k E v W1 a b c => yieldAt_any (hY pre x k E v W1 a b c)) h0))
/-- How a round's body may be left; n1: memory's size when the round began. -/
def roundEndsD {α : Type} (B n1 : Nat) (E : Nat → Prop) (I : List α → Nat → (Nat → Prop) → World → Prop) (Ix : Code → List α → Nat → (Nat → Prop) → World → Prop) (xs : List α) (W : World) : Exit → Act → World → Prop
  | .normal, _, W' => Kept B E W W' ∧ I xs W'.heap.size (growE E n1 W') W'
  | .ret, _, W' => Kept B E W W' ∧ Ix .ret xs W'.heap.size (growE E n1 W') W'
  | .exit id, _, W' => Kept B E W W' ∧ Ix (.exit id) xs W'.heap.size (growE E n1 W') W'
  | .goto t, _, W' => Kept B E W W' ∧ Ix (.goto t) xs W'.heap.size (growE E n1 W') W'
  | .panic _, _, _ => False
  | .outgrown, _, _ => False
theorem growE_size (E : Nat → Prop) (n1 : Nat) {W W' : World} (h : W.heap.size = W'.heap.size) : growE E n1 W = growE E n1 W' := by unfold growE; rw [h]
variable {F : Fence} {n : Nat} {P : Program}
/-- The statement over such an iterator, outside any round. -/
theorem wpIn_rangeFunc_D {α : Type} {g : Operand} {ps : Array Tmp} {assign body : Code} {Q : Exit → Act → World → Prop} {a : Act} {w : World}
    (hro : F.round = none) (h1 : 1 ≤ n) {gf : Nat} {lb : Array Value} (hg : a.eval g = .func (.func gf) #[] lb) (hFg : F.fn gf) (eg : ∀ args w, (callFunc gf args).run P w = .ok (.enter gf args) w) (hps : ps.size = 1)
    {R : α → Nat → (Nat → Prop) → Value → World → Prop} {E0 : Nat → Prop} {S Sp : List α → Prop} {N b : Nat} (hE : ∀ i, E0 i → i < w.heap.size)
    (hseq : ∀ W, Below w.heap.size w W → SeqD F (n - 1) P gf lb R E0 S Sp N b W)
    (I : List α → Nat → (Nat → Prop) → World → Prop) (Ix : Code → List α → Nat → (Nat → Prop) → World → Prop) (hI : ∀ pre k E, OwnFrom w.heap.size (fun (_ : Unit) => I pre k E)) (hIx : ∀ c pre k E, OwnFrom w.heap.size (fun (_ : Unit) => Ix c pre k E)) (h0 : I [] b E0 w)
    (Ax : α → Nat → (Nat → Prop) → Value → Act → World → Prop) (hAx : ∀ x k E v a', OwnFrom w.heap.size (fun (_ : Unit) W => Ax x k E v a' W))
    (hassign : ∀ (l : Nat) (pre : List α) (x : α) (k : Nat) (E : Nat → Prop) (v : Value) (W : World) (K : Act → World → Prop), I pre k E W → R x k E v W → (∀ a' W', Kept w.heap.size E W W' → I pre k E W' → Ax x k E v a' W' → K a' W') →
      assign.wpIn (F.inRound l) (n - 1 - 1) P (Exit.then K (fun _ _ _ => False)) { tmps := (ps.zip #[v]).foldl (fun t (p, v) => t.setIfInBounds p v) a.tmps, defers := [] } W)
    (hbody : ∀ (l n1 : Nat) (pre : List α) (x : α) (k : Nat) (E : Nat → Prop) (v : Value) (a' : Act) (W : World), n1 ≤ W.heap.size → w.heap.size ≤ n1 → I pre k E W → Ax x k E v a' W → pre.length < N →
      body.wpIn (F.inRound l) (n - 1 - 1) P (roundEndsD w.heap.size n1 E I Ix (pre ++ [x]) W) a' W)
    (hdone : ∀ (D : Nat) (xs : List α) (k : Nat) (E : Nat → Prop) (W : World), w.heap.size ≤ D → ¬ E D → S xs → I xs k E W → W.heap[D]? = some (.deferred (some [])) → Q .normal { a with defers := { target := .collected D, args := #[] } :: a.defers } W)
    (hstop : ∀ (D : Nat) (c : Code) (pre : List α) (k : Nat) (E : Nat → Prop) (W : World), w.heap.size ≤ D → ¬ E D → Sp pre → Ix c pre k E W → W.heap[D]? = some (.deferred (some [])) → c.wpIn F n P Q { a with defers := { target := .collected D, args := #[] } :: a.defers } W) :
    (Code.rangeFunc g ps assign body).wpIn F n P Q a w := by
  apply wpIn_rangeFunc
  intro fn hfn
  rw [hro]
  obtain ⟨L, hL⟩ : ∃ L : LoopState → Option Code → Loop, L = fun s j => { state := s, pending := j, fn, tmps := a.tmps, params := ps, assign, body, defers := w.heap.size } := ⟨_, rfl⟩
  have hLs : ∀ s j, (L s j).state = s := fun s j => by rw [hL]
  have hLp : ∀ s j, (L s j).pending = j := fun s j => by rw [hL]
  have hLw : ∀ s j s', { L s j with state := s' } = L s' j := fun s j s' => by rw [hL]
  have hLe : ∀ s j s' j', { L s j with state := s', pending := j' } = L s' j' := fun s j s' j' => by rw [hL]
  obtain ⟨V, hV⟩ : ∃ V, V = (w.alloc (.deferred (some []))).alloc (.loop (L .ready none)) := ⟨_, rfl⟩
  have hsV : V.heap.size = w.heap.size + 1 + 1 := by rw [hV]; simp
  have dV : V.heap[w.heap.size]? = some (.deferred (some [])) := by
    rw [hV, Below.heap_alloc _ _ _ (by simp)]
    exact World.alloc_heap_new w _
  have lV : V.heap[w.heap.size + 1]? = some (.loop (L .ready none)) := by
    have := World.alloc_heap_new (w.alloc (.deferred (some []))) (.loop (L .ready none))
    rw [World.size_alloc] at this
    rw [hV]
    exact this
  have iV : I [] b E0 V := by
    rw [hV]
    exact (hI _ _ _).alloc (s := ()) _ ((hI _ _ _).alloc (s := ()) _ h0)
  have bV : Below w.heap.size w V := by
    rw [hV]
    exact ((Below.refl _ w).alloc (Nat.le_refl _) _).alloc (by simp) _
  refine ⟨w.heap.size + 1, [{ target := .collected w.heap.size, args := #[] }], V, { target := .fn (.func gf) lb, args := #[.func (.yield (w.heap.size + 1)) #[] #[]] }, V, gf,
    #[.func (.yield (w.heap.size + 1)) #[] #[]] ++ lb, V, ?_, ?_, ?_, ?_, fun _ => h1, ?_⟩
  · rw [hV, hL]
    exact run_enterLoop_outer _ _ _ _ _
  · simp only [resolve, hg]
    simp [go_sem]
  · intro f' hf'
    simp [Target.leads] at hf'
    subst hf'
    exact hFg
  · simp [invoke, go_sem, eg]
  -- the book-keeping abides what the iterator does
  have keepO : ∀ (B' : World) (A' : World) (row : Option Nat) (i : Nat) (o : Obj), A'.grownBy B' row → (∀ r, row = some r → V.heap.size ≤ r ∧ ∃ o : Obj, A'.heap[r]? = some o ∧ o.isCells = false) → A'.heap[i]? = some o → i < V.heap.size → B'.heap[i]? = some o := fun B' A' row i o hg' hr hi hlt => by
    have hA := (Array.getElem?_eq_some_iff.1 hi).1
    exact (hg'.block i hA (fun e => by have := (hr i e.symm).1; omega)).trans hi
  refine (hseq V bV (w.heap.size + 1)
    (fun pre k E W => I pre k E W ∧ W.heap[w.heap.size + 1]? = some (.loop (L .ready none)) ∧ W.heap[w.heap.size]? = some (.deferred (some [])) ∧ (∀ i, E i → i < w.heap.size ∨ w.heap.size + 2 ≤ i) ∧ w.heap.size + 2 ≤ W.heap.size)
    (fun pre k E W => ∃ c, Ix c pre k E W ∧ W.heap[w.heap.size + 1]? = some (.loop (L .done (some c))) ∧ W.heap[w.heap.size]? = some (.deferred (some [])) ∧ (∀ i, E i → i < w.heap.size ∨ w.heap.size + 2 ≤ i))
    (fun pre k E u X Y row hs hg' hr => ⟨hI pre k E u X Y row hs.1 hg' (fun r e => ⟨by have := (hr r e).1; omega, (hr r e).2⟩), keepO Y X row _ _ hg' hr hs.2.1 (by omega), keepO Y X row _ _ hg' hr hs.2.2.1 (by omega), hs.2.2.2.1, Nat.le_trans hs.2.2.2.2 hg'.size⟩)
    (fun pre k E u X Y row hs hg' hr => by
      obtain ⟨c, hc, q1, q2, q3⟩ := hs
      exact ⟨c, hIx c pre k E u X Y row hc hg' (fun r e => ⟨by have := (hr r e).1; omega, (hr r e).2⟩), keepO Y X row _ _ hg' hr q1 (by omega), keepO Y X row _ _ hg' hr q2 (by omega), q3⟩)
    ?round ⟨iV, lV, dV, fun i e => .inl (hE i e), by omega⟩).mono ?behind
  case round =>
    rintro pre x k E v W ⟨hi, hl, hk, hEE, hsz⟩ hR hlen
    have hy := run_yield (P := P) (args := #[v]) hl (by rw [hL]; simp [hps])
    rw [hL] at hy
    refine ⟨fn, _, assign, body, hy, roundIn_of_wpIn hfn (hassign _ pre x k E v W _ hi hR ?_)⟩
    clear hy
    intro a' Wa kA iA xA
    have lA := kA.2 _ _ hl (fun e => by have := hEE _ e; omega) (.inl (by omega))
    have dA := kA.2 _ _ hk (fun e => by have := hEE _ e; omega) (.inl (by omega))
    have ltA := (Array.getElem?_eq_some_iff.1 lA).1
    have hbr := run_beginRound (P := P) lA (hLs _ _)
    rw [hLw] at hbr
    refine ⟨_, hbr, ?_⟩
    obtain ⟨Wb, hWb⟩ : ∃ Wb, Wb = Wa.putObj (w.heap.size + 1) (.loop (L .busy none)) := ⟨_, rfl⟩
    rw [← hWb]
    have lB : Wb.heap[w.heap.size + 1]? = some (.loop (L .busy none)) := by rw [hWb]; exact World.putObj_heap_same ltA
    have dB : Wb.heap[w.heap.size]? = some (.deferred (some [])) := by rw [hWb]; exact (World.putObj_heap_other (by omega)).trans dA
    have iB : I pre k E Wb := by rw [hWb]; exact (hI _ _ _).putObj (s := ()) _ iA (by omega) lA rfl
    have xB : Ax x k E v a' Wb := by rw [hWb]; exact (hAx _ _ _ _ _).putObj (s := ()) _ xA (by omega) lA rfl
    have kB : Kept V.heap.size E W Wb := by
      rw [hWb]
      exact (kA.mono (by omega) (fun _ e => e)).trans (Kept.record _ _ lA (by omega) rfl)
    refine wpIn_mono (hbody _ W.heap.size pre x k E v a' Wb (by have := kB.1; omega) (by omega) iB xB hlen) ?_
    have fin : ∀ (j : Option Code) (W3 : World), Kept w.heap.size E Wb W3 → ∃ W4, (Instr.endRound (w.heap.size + 1) j).run P W3 = .ok (.bool j.isNone) W4 ∧ Kept V.heap.size E W W4 ∧ W4.heap.size = W3.heap.size ∧
        W4.heap[w.heap.size + 1]? = some (.loop (L (if j.isNone then .ready else .done) j)) ∧ W4.heap[w.heap.size]? = some (.deferred (some [])) ∧ (∀ p : World → Prop, OwnFrom w.heap.size (fun (_ : Unit) => p) → p W3 → p W4) := fun j W3 k3 => by
      have l3 := k3.2 _ _ lB (fun e => by have := hEE _ e; omega) (.inl (by omega))
      have d3 := k3.2 _ _ dB (fun e => by have := hEE _ e; omega) (.inl (by omega))
      have lt3 := (Array.getElem?_eq_some_iff.1 l3).1
      have hr := run_endRound (P := P) j l3
      rw [hLe] at hr
      exact ⟨_, hr, kB.trans ((k3.mono (by omega) (fun _ e => e)).trans (Kept.record _ _ l3 (by omega) rfl)), size_putObj _ _ _, World.putObj_heap_same lt3, (World.putObj_heap_other (by omega)).trans d3, fun p hp h3 => hp.putObj (s := ()) _ h3 (by omega) l3 rfl⟩
    have gE : ∀ (W4 : World) {W3 : World}, W4.heap.size = W3.heap.size → ∀ i, growE E W.heap.size W4 i → i < w.heap.size ∨ w.heap.size + 2 ≤ i := fun W4 {W3} _ i e => by
      rcases e with e | e
      · exact hEE i e
      · right
        omega
    rintro e a3 W3 hp
    cases e with
    | normal =>
      obtain ⟨k3, i3⟩ := hp
      obtain ⟨W4, r4, k4, s4, l4, d4, p4⟩ := fin none W3 k3
      exact ⟨_, _, r4, k4, .inl ⟨rfl, by rw [s4, growE_size _ _ s4]; exact p4 _ (hI _ _ _) i3, l4, d4, gE _ s4, by have := k4.1; omega⟩⟩
    | ret =>
      obtain ⟨k3, i3⟩ := hp
      obtain ⟨W4, r4, k4, s4, l4, d4, p4⟩ := fin (some .ret) W3 k3
      exact ⟨_, _, r4, k4, .inr ⟨rfl, .ret, by rw [s4, growE_size _ _ s4]; exact p4 _ (hIx _ _ _ _) i3, l4, d4, gE _ s4⟩⟩
    | exit id =>
      obtain ⟨k3, i3⟩ := hp
      obtain ⟨W4, r4, k4, s4, l4, d4, p4⟩ := fin (some (.exit id)) W3 k3
      exact ⟨_, _, r4, k4, .inr ⟨rfl, .exit id, by rw [s4, growE_size _ _ s4]; exact p4 _ (hIx _ _ _ _) i3, l4, d4, gE _ s4⟩⟩
    | goto t =>
      obtain ⟨k3, i3⟩ := hp
      obtain ⟨W4, r4, k4, s4, l4, d4, p4⟩ := fin (some (.goto t)) W3 k3
      exact ⟨_, _, r4, k4, .inr ⟨rfl, .goto t, by rw [s4, growE_size _ _ s4]; exact p4 _ (hIx _ _ _ _) i3, l4, d4, gE _ s4⟩⟩
    | panic ch => exact hp.elim
    | outgrown => exact hp.elim
  case behind =>
    rintro e W2 ⟨⟨v, rfl⟩, (⟨xs, k, E, hS, hi, hl, hk, hEE, -⟩ | ⟨pre, k, E, hSp, c, hi, hl, hk, hEE⟩)⟩
    · have hr := run_endLoop (P := P) hl (by rw [hLs]; simp)
      rw [hLp] at hr
      exact ⟨none, _, hr, hdone _ xs k E _ (Nat.le_refl _) (fun e => by have := hEE _ e; omega) hS ((hI _ _ _).putObj (s := ()) _ hi (by omega) hl rfl) ((World.putObj_heap_other (by omega)).trans hk)⟩
    · have hr := run_endLoop (P := P) hl (by rw [hLs]; simp)
      rw [hLp] at hr
      exact ⟨some c, _, hr, hstop _ c pre k E _ (Nat.le_refl _) (fun e => by have := hEE _ e; omega) hSp ((hIx _ _ _ _).putObj (s := ()) _ hi (by omega) hl rfl) ((World.putObj_heap_other (by omega)).trans hk)⟩
end Go.Proofs.Ytoicdfdfajfopaa

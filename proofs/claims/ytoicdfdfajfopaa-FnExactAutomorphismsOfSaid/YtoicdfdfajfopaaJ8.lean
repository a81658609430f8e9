
/- The program's iterator over renumberings: the loop over the queue. A list that was made. The model's DegreesOf. impl.SquareOf makes the square of its number. The laws' copies of rows of integers, and how much they hold. The laws' copies of rows of rows, and how much they hold. -/
import Derived.Test.YtoicdfdfajfopaaJ7
namespace Go.Proofs.Ytoicdfdfajfopaa
open Go.RowKit Go.Maps Go.Shelf
theorem ownJ_below {w w' : World} {base : Nat} {v : Value} {zs : List Int} (h : OwnJ w base v zs) (hb : Below w.heap.size w w') : OwnJ w' base v zs :=
  h.below hb (Nat.le_refl _)
set_option maxRecDepth 1000000 in
def WI2 (W : World) (Bf Bt g1 n cap1 lo q0 : Nat) (T1 T2 : Nat → Nat → Nat) (r0 : Option (List (Option Nat))) (mu0 : Nat) (ds : List Deferred) (c0 c1 c4 c5 c6 c13 c14 c15 c16 c17 c18 c19 c20 c21 c22 c23 c24 c25 c26 c27 c28 c29 c30 c31 c113 c114 c115 c116 c117 c118 c119 c120 c121 c122 : Value) (a' : Act) (w' : World) : Prop :=
  ∃ (m : List (Option Nat)) (op : List (Nat × Nat)) (f : Nat) (u8 : Value) (u9 u10 u11 u12 u32 u33 u34 u35 u36 u37 u38 u39 u40 u41 u42 u43 u44 u45 u46 u47 u48 u49 u50 u51 u52 u53 u54 u55 u56 u57 u58 u59 u60 u61 u62 u63 u64 u65 u66 u67 u68 u69 u70 u71 u72 u73 u74 u75 u76 u77 u78 u79 u80 u81 u82 u83 u84 u85 u86 u87 u88 u89 u90 u91 u92 u93 u94 u95 u96 u97 u98 u99 u100 u101 u102 u103 u104 u105 u106 u107 u108 u109 u110 u111 u112 : Value), QuP w' q0 u8 (castP op) ∧ OwnJ w' lo (.slice (some ⟨g1, 0, none⟩) n cap1) (encM m) ∧ Cl n T1 T2 m op ∧ OpL n op ∧ mu n m op < f ∧ mu n m op < mu0 ∧ r0 = prop n T1 T2 f m op ∧ Below lo W w' ∧ q0 ≤ w'.heap.size ∧ a' = { tmps := #[c0, c1, .pointer (some ⟨Bt, 0, none⟩), .pointer (some ⟨Bf, 0, none⟩), c4, c5, c6, .slice (some ⟨g1, 0, none⟩) n cap1, u8, u9, u10, u11, u12, c13, c14, c15, c16, c17, c18, c19, c20, c21, c22, c23, c24, c25, c26, c27, c28, c29, c30, c31, u32, u33, u34, u35, u36, u37, u38, u39, u40, u41, u42, u43, u44, u45, u46, u47, u48, u49, u50, u51, u52, u53, u54, u55, u56, u57, u58, u59, u60, u61, u62, u63, u64, u65, u66, u67, u68, u69, u70, u71, u72, u73, u74, u75, u76, u77, u78, u79, u80, u81, u82, u83, u84, u85, u86, u87, u88, u89, u90, u91, u92, u93, u94, u95, u96, u97, u98, u99, u100, u101, u102, u103, u104, u105, u106, u107, u108, u109, u110, u111, u112, c113, c114, c115, c116, c117, c118, c119, c120, c121, c122], defers := ds }
set_option maxRecDepth 1000000 in
set_option maxHeartbeats 4000000 in
theorem ren2_same {W : World} {Bf Bt g1 n cap1 a b q0 lo f mu0 : Nat} {r : List (Nat × Nat)} {T1 T2 : Nat → Nat → Nat} {m : List (Option Nat)} {r0 : Option (List (Option Nat))} {ds : List Deferred} {wr : World} (hn : n ≤ 15)
    (hC : Cl n T1 T2 m ((a, b) :: r)) (hop : OpL n ((a, b) :: r)) (hf : mu n m ((a, b) :: r) < f) (h0 : mu n m ((a, b) :: r) ≤ mu0) (hr : r0 = prop n T1 T2 f m ((a, b) :: r)) (hab : gm m a = some b)
    (hO : OwnJ wr lo (.slice (some ⟨g1, 0, none⟩) n cap1) (encM m)) (hB : Below lo W wr) (hlow : lo ≤ q0) (hz : q0 ≤ wr.heap.size)
    (c0 c1 c4 c5 c6 c13 c14 c15 c16 c17 c18 c19 c20 c21 c22 c23 c24 c25 c26 c27 c28 c29 c30 c31 c113 c114 c115 c116 c117 c118 c119 c120 c121 c122 : Value) (Q0 : Exit → Act → World → Prop) (u8 : Value) (u9 u10 u11 u12 u32 u33 u34 u35 u36 u37 u38 u39 u40 u41 u42 u43 u44 u45 u46 u47 u48 u49 u50 u51 u52 u53 u54 u55 u56 u57 u58 u59 u60 u61 u62 u63 u64 u65 u66 u67 u68 u69 u70 u71 u72 u73 u74 u75 u76 u77 u78 u79 u80 u81 u82 u83 u84 u85 u86 u87 u88 u89 u90 u91 u92 u93 u94 u95 u96 u97 u98 u99 u100 u101 u102 u103 u104 u105 u106 u107 u108 u109 u110 u111 u112 : Value) (hQ : QuP wr q0 u8 (castP ((a, b) :: r))) :
    Code.wp Try.prog ren2 (Exit.then (fun a' w' => WI2 W Bf Bt g1 n cap1 lo q0 T1 T2 r0 mu0 ds c0 c1 c4 c5 c6 c13 c14 c15 c16 c17 c18 c19 c20 c21 c22 c23 c24 c25 c26 c27 c28 c29 c30 c31 c113 c114 c115 c116 c117 c118 c119 c120 c121 c122 a' w') Q0) { tmps := #[c0, c1, .pointer (some ⟨Bt, 0, none⟩), .pointer (some ⟨Bf, 0, none⟩), c4, c5, c6, .slice (some ⟨g1, 0, none⟩) n cap1, u8, u9, u10, u11, u12, c13, c14, c15, c16, c17, c18, c19, c20, c21, c22, c23, c24, c25, c26, c27, c28, c29, c30, c31, u32, u33, u34, u35, u36, u37, u38, u39, u40, u41, u42, u43, u44, u45, u46, u47, u48, u49, u50, u51, u52, u53, u54, u55, u56, u57, u58, u59, u60, u61, u62, u63, u64, u65, u66, u67, u68, u69, u70, u71, u72, u73, u74, u75, u76, u77, u78, u79, u80, u81, u82, u83, u84, u85, u86, u87, u88, u89, u90, u91, u92, u93, u94, u95, u96, u97, u98, u99, u100, u101, u102, u103, u104, u105, u106, u107, u108, u109, u110, u111, u112, c113, c114, c115, c116, c117, c118, c119, c120, c121, c122], defers := ds } wr := by
  conv => arg 2; whnf
  have ha := (hop (a, b) (by simp)).1
  have hb := (hop (a, b) (by simp)).2
  obtain ⟨g, off, cap, rfl, hg1, hg2, k0, k1, hcl, hcm, hQ1, hQ2⟩ := QuP.head (p := ((a : Int), (b : Int))) (ps := castP r) hQ
  have hcell := hO.cellJ (i := a) (by rw [encM_len, hC.len]; exact ha)
  rw [encM_at (by rw [hC.len]; exact ha), hab] at hcell
  dsimp only at hcell
  obtain ⟨f', rfl⟩ : ∃ f', f = f' + 1 := ⟨f - 1, by omega⟩
  have hmu : mu n m ((a, b) :: r) = mu n m r + 1 := by simp [mu]; omega
  have HC' := Lib.hid (show Cl n T1 T2 m r from ⟨hC.len, hC.rng, hC.inj, fun x z y d hx hz hne => by
    rcases hC.cons x z y d hx hz hne with e | e
    · exact .inl e
    · rcases List.mem_cons.1 e with e | e
      · left
        rw [Prod.mk.injEq] at e
        rw [e.1, e.2]
        exact hab
      · exact .inr e⟩)
  have HOP := Lib.hid (show OpL n r from fun p hp => hop p (List.mem_cons_of_mem _ hp))
  have HR := Lib.hid (show r0 = prop n T1 T2 f' m r by rw [hr, prop, if_pos hab])
  have HM1 := Lib.hid (show mu n m r < f' by omega)
  have HM2 := Lib.hid (show mu n m r < mu0 by omega)
  have HO := Lib.hid hO
  clear hmu h0
  have HQ1 := Lib.hid hQ1
  have HQ2 := Lib.hid hQ2
  have hlr := castP_len r
  obtain ⟨nr, hnr⟩ : ∃ nr, nr = (castP r).length := ⟨_, rfl⟩
  rw [← hnr] at hcl ⊢
  have hnl : nr ≤ maxLen := by omega
  have HN := Lib.hid hnr
  clear hO hQ hQ1 hQ2 hlr hnr hC hop hf hr
  unfold maxLen at hnl hcm
  have k0 := cell_regrown k0
  have k1 := cell_regrown k1
  go_wp2
  refine wp_region_quiet_below (by kernel_rfl) (by kernel_rfl) ?_
  repeat (go_big_quiet_step (fail))
  refine wpQuiet_nil ?_
  intro _ hw'
  obtain ⟨⟨dq, osq⟩, hw''⟩ := hw'
  have hbq := below_regrown wr dq osq
  subst hw''
  obtain ⟨V, hV⟩ : ∃ V, V = «Sort».grow (redrawn wr dq) osq := ⟨_, rfl⟩
  rw [← hV] at hbq ⊢
  have hcell2 := (hbq.cell (p := ⟨g1, a, none⟩) (block_lt_of_cell hcell)).trans hcell
  have hBV : Below lo W V := hB.trans (hbq.mono (Nat.le_trans hlow hz))
  have hzV := Nat.le_trans hz hbq.size
  clear hcell hV
  go_wp2
  case inr => exact ⟨m, r, f', _, _, _, _, _, _, _, _, _, _, _, _, _, _, _, _, _, _, _, _, _, _, _, _, _, _, _, _, _, _, _, _, _, _, _, _, _, _, _, _, _, _, _, _, _, _, _, _, _, _, _, _, _, _, _, _, _, _, _, _, _, _, _, _, _, _, _, _, _, _, _, _, _, _, _, _, _, _, _, _, _, _, _, _, _, _, by rw [HN.out]; exact HQ1.out.below hbq, ownJ_below HO.out hbq, HC'.out, HOP.out, HM1.out, HM2.out, HR.out, hBV, hzV, rfl⟩
  case inl =>
    have hc0 : cap = 0 := by assumption
    subst hc0
    exact ⟨m, r, f', _, _, _, _, _, _, _, _, _, _, _, _, _, _, _, _, _, _, _, _, _, _, _, _, _, _, _, _, _, _, _, _, _, _, _, _, _, _, _, _, _, _, _, _, _, _, _, _, _, _, _, _, _, _, _, _, _, _, _, _, _, _, _, _, _, _, _, _, _, _, _, _, _, _, _, _, _, _, _, _, _, _, _, _, _, _, by rw [HN.out]; exact (HQ2.out rfl).below hbq, ownJ_below HO.out hbq, HC'.out, HOP.out, HM1.out, HM2.out, HR.out, hBV, hzV, rfl⟩
theorem TbR.limit {W : World} {lim lim' Bx n : Nat} {T : Nat → Nat → Nat} (h : TbR W lim Bx n T) (hl : lim ≤ lim') : TbR W lim' Bx n T := by
  obtain ⟨G, cap, gs, cs, h1, h2, h3, h4⟩ := h
  exact ⟨G, cap, gs, cs, by omega, by omega, fun a ha => by have := h3 a ha; omega, h4⟩
theorem ownJ_lim {w w' : World} {base g n cap q : Nat} {zs : List Int} (h : OwnJ w base (.slice (some ⟨g, 0, none⟩) n cap) zs) (hb : Below q w w') (hg : g < q) : OwnJ w' base (.slice (some ⟨g, 0, none⟩) n cap) zs := by
  obtain ⟨hl, h | ⟨g', cap', cur, e, hb', hcur, hrest⟩⟩ := h
  · cases h.1
  · cases e
    exact ⟨hl, .inr ⟨g, cap, cur, rfl, hb', (hb.block g hg).trans hcur, hrest⟩⟩
theorem OwnJ.setR {w : World} {base g n cap : Nat} {zs : List Int} (h : OwnJ w base (.slice (some ⟨g, 0, none⟩) n cap) zs) {i : Nat} {x : Int} (_hi : i < zs.length) :
    OwnJ (w.setCell ⟨g, i, none⟩ (.int .i64 x)) base (.slice (some ⟨g, 0, none⟩) n cap) (zs.set i x) ∧ w.grownBy (w.setCell ⟨g, i, none⟩ (.int .i64 x)) (some g) := by
  refine ⟨?_, only_setCell (only_refl w (some g)) rfl _⟩
  obtain ⟨_, h | ⟨g', cap', cur, e, hb, hcur, hn, hc, hsz, hx⟩⟩ := h
  · simp at h
  · simp at e
    obtain ⟨rfl, rfl, rfl⟩ := e
    have hl : (zs.set i x).length = zs.length := List.length_set
    unfold OwnJ
    rw [hl]
    refine ⟨by simp, .inr ⟨g, cap, cur.setIfInBounds i (.int .i64 x), rfl, hb, heap_setCell_same w g i cur _ _ hcur, hn, hc, by simp [hsz], ?_⟩⟩
    rw [Array.toList_setIfInBounds, List.take_set, hx, List.map_set]
theorem OwnJ.atR {w : World} {base g n cap : Nat} {zs : List Int} (h : OwnJ w base (.slice (some ⟨g, 0, none⟩) n cap) zs) {i : Nat} (hi : i < zs.length) : w.cell? ⟨g, i, none⟩ = some (.int .i64 (zs[i]?.getD 0)) ∧ base ≤ g ∧ g < w.heap.size ∧ n = zs.length ∧ w.frozen? ⟨g, i, none⟩ = false := by
  obtain ⟨_, h | ⟨g', cap', cur, e, hb, hcur, hn, hc, hsz, hx⟩⟩ := h
  · simp at h
  · simp at e
    obtain ⟨rfl, rfl, rfl⟩ := e
    refine ⟨?_, hb, (Array.getElem?_eq_some_iff.1 hcur).1, rfl, by simp [World.frozen?, hcur]⟩
    have e : (zs.map (Value.int .i64))[i]? = some (.int .i64 zs[i]) := by simp [hi]
    rw [← hx, List.getElem?_take_of_lt (by omega)] at e
    rw [List.getElem?_eq_getElem hi, Option.getD_some]
    simp [World.cell?, hcur]
    simpa using e
theorem contains_enc {V : World} {lo g1 n cap1 b : Nat} {m : List (Option Nat)} (h : OwnJ V lo (.slice (some ⟨g1, 0, none⟩) n cap1) (encM m)) (hn : n ≤ 1000) (hm : m.length = n) :
    Calls Try.prog 124 #[.slice (some ⟨g1, 0, none⟩) n cap1, .int .i64 (b : Int)] V (RS (.bool (decide (some b ∈ m))) V) := by
  obtain ⟨b', off', cap', e1, _, e3⟩ := h.ia (by rw [encM_len]; omega)
  rw [encM_len, hm] at e1
  cases e1
  have := Contains_any g1 0 cap1 (encM m) (b : Int) V e3 (by rw [encM_len]; omega)
  rw [encM_len, hm, inL_enc] at this
  exact this
set_option maxRecDepth 1000000 in
set_option maxHeartbeats 4000000 in
theorem ren2_known {W : World} {Bf Bt g1 n cap1 a b q0 lo : Nat} {r : List (Nat × Nat)} {m : List (Option Nat)} {ds : List Deferred} {wr : World} (hn : n ≤ 15) (hm : m.length = n)
    (ha : a < n) (hb : b < n) {c : Nat} (hac : gm m a = some c) (hcb : c ≠ b)
    (hO : OwnJ wr lo (.slice (some ⟨g1, 0, none⟩) n cap1) (encM m)) (hB : Below lo W wr) (hlow : lo ≤ q0) (hz : q0 ≤ wr.heap.size)
    (c0 c1 c4 c5 c6 c13 c14 c15 c16 c17 c18 c19 c20 c21 c22 c23 c24 c25 c26 c27 c28 c29 c30 c31 c113 c114 c115 c116 c117 c118 c119 c120 c121 c122 : Value) (Q0 : Exit → Act → World → Prop) (K : Act → World → Prop) (hexit : ∀ a' w', (∃ (u8 : Value) (u9 u10 u11 u12 u32 u33 u34 u35 u36 u37 u38 u39 u40 u41 u42 u43 u44 u45 u46 u47 u48 u49 u50 u51 u52 u53 u54 u55 u56 u57 u58 u59 u60 u61 u62 u63 u64 u65 u66 u67 u68 u69 u70 u71 u72 u73 u74 u75 u76 u77 u78 u79 u80 u81 u82 u83 u84 u85 u86 u87 u88 u89 u90 u91 u92 u93 u94 u95 u96 u97 u98 u99 u100 u101 u102 u103 u104 u105 u106 u107 u108 u109 u110 u111 u112 : Value), Below lo W w' ∧ q0 ≤ w'.heap.size ∧ a' = { tmps := #[c0, c1, .pointer (some ⟨Bt, 0, none⟩), .pointer (some ⟨Bf, 0, none⟩), c4, c5, c6, .slice (some ⟨g1, 0, none⟩) n cap1, u8, u9, u10, u11, u12, c13, c14, c15, c16, c17, c18, c19, c20, c21, c22, c23, c24, c25, c26, c27, c28, c29, c30, c31, u32, u33, u34, u35, u36, u37, u38, u39, u40, u41, u42, u43, u44, u45, u46, u47, u48, u49, u50, u51, u52, u53, u54, u55, u56, u57, u58, u59, u60, u61, u62, u63, u64, u65, u66, u67, u68, u69, u70, u71, u72, u73, u74, u75, u76, u77, u78, u79, u80, u81, u82, u83, u84, u85, u86, u87, u88, u89, u90, u91, u92, u93, u94, u95, u96, u97, u98, u99, u100, u101, u102, u103, u104, u105, u106, u107, u108, u109, u110, u111, u112, c113, c114, c115, c116, c117, c118, c119, c120, c121, c122], defers := ds }) → Q0 (.exit 1) a' w') (u8 : Value) (u9 u10 u11 u12 u32 u33 u34 u35 u36 u37 u38 u39 u40 u41 u42 u43 u44 u45 u46 u47 u48 u49 u50 u51 u52 u53 u54 u55 u56 u57 u58 u59 u60 u61 u62 u63 u64 u65 u66 u67 u68 u69 u70 u71 u72 u73 u74 u75 u76 u77 u78 u79 u80 u81 u82 u83 u84 u85 u86 u87 u88 u89 u90 u91 u92 u93 u94 u95 u96 u97 u98 u99 u100 u101 u102 u103 u104 u105 u106 u107 u108 u109 u110 u111 u112 : Value) (hQ : QuP wr q0 u8 (castP ((a, b) :: r))) :
    Code.wp Try.prog ren2 (Exit.then K Q0) { tmps := #[c0, c1, .pointer (some ⟨Bt, 0, none⟩), .pointer (some ⟨Bf, 0, none⟩), c4, c5, c6, .slice (some ⟨g1, 0, none⟩) n cap1, u8, u9, u10, u11, u12, c13, c14, c15, c16, c17, c18, c19, c20, c21, c22, c23, c24, c25, c26, c27, c28, c29, c30, c31, u32, u33, u34, u35, u36, u37, u38, u39, u40, u41, u42, u43, u44, u45, u46, u47, u48, u49, u50, u51, u52, u53, u54, u55, u56, u57, u58, u59, u60, u61, u62, u63, u64, u65, u66, u67, u68, u69, u70, u71, u72, u73, u74, u75, u76, u77, u78, u79, u80, u81, u82, u83, u84, u85, u86, u87, u88, u89, u90, u91, u92, u93, u94, u95, u96, u97, u98, u99, u100, u101, u102, u103, u104, u105, u106, u107, u108, u109, u110, u111, u112, c113, c114, c115, c116, c117, c118, c119, c120, c121, c122], defers := ds } wr := by
  conv => arg 2; whnf
  obtain ⟨g, off, cap, rfl, hg1, hg2, k0, k1, hcl, hcm, -, -⟩ := QuP.head (p := ((a : Int), (b : Int))) (ps := castP r) hQ
  have hcell := hO.cellJ (i := a) (by rw [encM_len, hm]; exact ha)
  rw [encM_at (by rw [hm]; exact ha)] at hcell
  rw [hac] at hcell
  dsimp only at hcell
  have hne1 : ((c : Int) == (b : Int)) = false := by rw [beq_eq_false_iff_ne]; omega
  have hne2 : ((c : Int) != -1) = true := by rw [bne_iff_ne]; omega
  have HX := Lib.hid hexit
  obtain ⟨nr, hnr⟩ : ∃ nr, nr = (castP r).length := ⟨_, rfl⟩
  rw [← hnr] at hcl ⊢
  have hnl : nr ≤ maxLen := by omega
  clear hQ hnr hO hexit
  unfold maxLen at hnl hcm
  have k0 := cell_regrown k0
  have k1 := cell_regrown k1
  go_wp2
  refine wp_region_quiet_below (by kernel_rfl) (by kernel_rfl) ?_
  repeat (go_big_quiet_step (fail))
  refine wpQuiet_nil ?_
  intro _ hw'
  obtain ⟨⟨dq, osq⟩, hw''⟩ := hw'
  have hbq := below_regrown wr dq osq
  subst hw''
  obtain ⟨V, hV⟩ : ∃ V, V = «Sort».grow (redrawn wr dq) osq := ⟨_, rfl⟩
  rw [← hV] at hbq ⊢
  have hcell2 := (hbq.cell (p := ⟨g1, a, none⟩) (block_lt_of_cell hcell)).trans hcell
  have hBV : Below lo W V := hB.trans (hbq.mono (Nat.le_trans hlow hz))
  have hzV := Nat.le_trans hz hbq.size
  clear hcell hV
  go_wp2
  exact HX.out _ _ ⟨_, _, _, _, _, _, _, _, _, _, _, _, _, _, _, _, _, _, _, _, _, _, _, _, _, _, _, _, _, _, _, _, _, _, _, _, _, _, _, _, _, _, _, _, _, _, _, _, _, _, _, _, _, _, _, _, _, _, _, _, _, _, _, _, _, _, _, _, _, _, _, _, _, _, _, _, _, _, _, _, _, _, _, _, _, _, hBV, hzV, rfl⟩
set_option maxRecDepth 1000000 in
set_option maxHeartbeats 4000000 in
theorem ren2_taken {W : World} {Bf Bt g1 n cap1 a b q0 lo : Nat} {r : List (Nat × Nat)} {m : List (Option Nat)} {ds : List Deferred} {wr : World} (hn : n ≤ 15) (hm : m.length = n)
    (ha : a < n) (hb : b < n) (hac : gm m a = none) (hbm : some b ∈ m)
    (hO : OwnJ wr lo (.slice (some ⟨g1, 0, none⟩) n cap1) (encM m)) (hB : Below lo W wr) (hlow : lo ≤ q0) (hz : q0 ≤ wr.heap.size)
    (c0 c1 c4 c5 c6 c13 c14 c15 c16 c17 c18 c19 c20 c21 c22 c23 c24 c25 c26 c27 c28 c29 c30 c31 c113 c114 c115 c116 c117 c118 c119 c120 c121 c122 : Value) (Q0 : Exit → Act → World → Prop) (K : Act → World → Prop) (hexit : ∀ a' w', (∃ (u8 : Value) (u9 u10 u11 u12 u32 u33 u34 u35 u36 u37 u38 u39 u40 u41 u42 u43 u44 u45 u46 u47 u48 u49 u50 u51 u52 u53 u54 u55 u56 u57 u58 u59 u60 u61 u62 u63 u64 u65 u66 u67 u68 u69 u70 u71 u72 u73 u74 u75 u76 u77 u78 u79 u80 u81 u82 u83 u84 u85 u86 u87 u88 u89 u90 u91 u92 u93 u94 u95 u96 u97 u98 u99 u100 u101 u102 u103 u104 u105 u106 u107 u108 u109 u110 u111 u112 : Value), Below lo W w' ∧ q0 ≤ w'.heap.size ∧ a' = { tmps := #[c0, c1, .pointer (some ⟨Bt, 0, none⟩), .pointer (some ⟨Bf, 0, none⟩), c4, c5, c6, .slice (some ⟨g1, 0, none⟩) n cap1, u8, u9, u10, u11, u12, c13, c14, c15, c16, c17, c18, c19, c20, c21, c22, c23, c24, c25, c26, c27, c28, c29, c30, c31, u32, u33, u34, u35, u36, u37, u38, u39, u40, u41, u42, u43, u44, u45, u46, u47, u48, u49, u50, u51, u52, u53, u54, u55, u56, u57, u58, u59, u60, u61, u62, u63, u64, u65, u66, u67, u68, u69, u70, u71, u72, u73, u74, u75, u76, u77, u78, u79, u80, u81, u82, u83, u84, u85, u86, u87, u88, u89, u90, u91, u92, u93, u94, u95, u96, u97, u98, u99, u100, u101, u102, u103, u104, u105, u106, u107, u108, u109, u110, u111, u112, c113, c114, c115, c116, c117, c118, c119, c120, c121, c122], defers := ds }) → Q0 (.exit 1) a' w') (u8 : Value) (u9 u10 u11 u12 u32 u33 u34 u35 u36 u37 u38 u39 u40 u41 u42 u43 u44 u45 u46 u47 u48 u49 u50 u51 u52 u53 u54 u55 u56 u57 u58 u59 u60 u61 u62 u63 u64 u65 u66 u67 u68 u69 u70 u71 u72 u73 u74 u75 u76 u77 u78 u79 u80 u81 u82 u83 u84 u85 u86 u87 u88 u89 u90 u91 u92 u93 u94 u95 u96 u97 u98 u99 u100 u101 u102 u103 u104 u105 u106 u107 u108 u109 u110 u111 u112 : Value) (hQ : QuP wr q0 u8 (castP ((a, b) :: r))) :
    Code.wp Try.prog ren2 (Exit.then K Q0) { tmps := #[c0, c1, .pointer (some ⟨Bt, 0, none⟩), .pointer (some ⟨Bf, 0, none⟩), c4, c5, c6, .slice (some ⟨g1, 0, none⟩) n cap1, u8, u9, u10, u11, u12, c13, c14, c15, c16, c17, c18, c19, c20, c21, c22, c23, c24, c25, c26, c27, c28, c29, c30, c31, u32, u33, u34, u35, u36, u37, u38, u39, u40, u41, u42, u43, u44, u45, u46, u47, u48, u49, u50, u51, u52, u53, u54, u55, u56, u57, u58, u59, u60, u61, u62, u63, u64, u65, u66, u67, u68, u69, u70, u71, u72, u73, u74, u75, u76, u77, u78, u79, u80, u81, u82, u83, u84, u85, u86, u87, u88, u89, u90, u91, u92, u93, u94, u95, u96, u97, u98, u99, u100, u101, u102, u103, u104, u105, u106, u107, u108, u109, u110, u111, u112, c113, c114, c115, c116, c117, c118, c119, c120, c121, c122], defers := ds } wr := by
  conv => arg 2; whnf
  obtain ⟨g, off, cap, rfl, hg1, hg2, k0, k1, hcl, hcm, -, -⟩ := QuP.head (p := ((a : Int), (b : Int))) (ps := castP r) hQ
  have hcell := hO.cellJ (i := a) (by rw [encM_len, hm]; exact ha)
  rw [encM_at (by rw [hm]; exact ha)] at hcell
  rw [hac] at hcell
  dsimp only at hcell
  have hne1 : ((-1 : Int) == (b : Int)) = false := by rw [beq_eq_false_iff_ne]; omega
  have HCT := Lib.hid fun V (hb : Below wr.heap.size wr V) => contains_enc (b := b) (ownJ_below hO hb) (by omega) hm
  rw [decide_eq_true hbm] at HCT
  have HX := Lib.hid hexit
  obtain ⟨nr, hnr⟩ : ∃ nr, nr = (castP r).length := ⟨_, rfl⟩
  rw [← hnr] at hcl ⊢
  have hnl : nr ≤ maxLen := by omega
  clear hQ hnr hO hexit
  unfold maxLen at hnl hcm
  have k0 := cell_regrown k0
  have k1 := cell_regrown k1
  go_wp2
  refine wp_region_quiet_below (by kernel_rfl) (by kernel_rfl) ?_
  repeat (go_big_quiet_step (fail))
  refine wpQuiet_nil ?_
  intro _ hw'
  obtain ⟨⟨dq, osq⟩, hw''⟩ := hw'
  have hbq := below_regrown wr dq osq
  subst hw''
  obtain ⟨V, hV⟩ : ∃ V, V = «Sort».grow (redrawn wr dq) osq := ⟨_, rfl⟩
  rw [← hV] at hbq ⊢
  have hcell2 := (hbq.cell (p := ⟨g1, a, none⟩) (block_lt_of_cell hcell)).trans hcell
  have hBV : Below lo W V := hB.trans (hbq.mono (Nat.le_trans hlow hz))
  have hzV := Nat.le_trans hz hbq.size
  clear hcell hV
  have HCV := Lib.hid (HCT.out V hbq)
  clear HCT
  go_wp2_with (go_at_call 124; refine HCV.out.mono ?_; rintro e w1 ⟨rfl, rfl⟩)
  exact HX.out _ _ ⟨_, _, _, _, _, _, _, _, _, _, _, _, _, _, _, _, _, _, _, _, _, _, _, _, _, _, _, _, _, _, _, _, _, _, _, _, _, _, _, _, _, _, _, _, _, _, _, _, _, _, _, _, _, _, _, _, _, _, _, _, _, _, _, _, _, _, _, _, _, _, _, _, _, _, _, _, _, _, _, _, _, _, _, _, _, _, hBV, hzV, rfl⟩
set_option maxRecDepth 1000000 in
set_option maxHeartbeats 4000000 in
theorem ren2_put {W : World} {Bf Bt g1 n cap1 a b q0 lo f mu0 : Nat} {r : List (Nat × Nat)} {T1 T2 : Nat → Nat → Nat} {m : List (Option Nat)} {r0 : Option (List (Option Nat))} {ds : List Deferred} {wr : World} (hn : n ≤ 15) (hrl : r.length ≤ 900000) (hT1 : Thd n T1) (hT2 : Thd n T2)
    (hC : Cl n T1 T2 m ((a, b) :: r)) (hop : OpL n ((a, b) :: r)) (hf : mu n m ((a, b) :: r) < f) (h0 : mu n m ((a, b) :: r) ≤ mu0) (hr : r0 = prop n T1 T2 f m ((a, b) :: r)) (hac : gm m a = none) (hbm : some b ∉ m)
    (hF : TbR wr lo Bf n T1) (hT : TbR wr lo Bt n T2) (hg1 : g1 < q0)
    (hO : OwnJ wr lo (.slice (some ⟨g1, 0, none⟩) n cap1) (encM m)) (hB : Below lo W wr) (hlow : lo ≤ q0) (hz : q0 ≤ wr.heap.size)
    (c0 c1 c4 c5 c6 c13 c14 c15 c16 c17 c18 c19 c20 c21 c22 c23 c24 c25 c26 c27 c28 c29 c30 c31 c113 c114 c115 c116 c117 c118 c119 c120 c121 c122 : Value) (Q0 : Exit → Act → World → Prop) (hQ0 : ∀ c a a' w, Q0 (.panic c) a w → Q0 (.panic c) a' w) (u8 : Value) (u9 u10 u11 u12 u32 u33 u34 u35 u36 u37 u38 u39 u40 u41 u42 u43 u44 u45 u46 u47 u48 u49 u50 u51 u52 u53 u54 u55 u56 u57 u58 u59 u60 u61 u62 u63 u64 u65 u66 u67 u68 u69 u70 u71 u72 u73 u74 u75 u76 u77 u78 u79 u80 u81 u82 u83 u84 u85 u86 u87 u88 u89 u90 u91 u92 u93 u94 u95 u96 u97 u98 u99 u100 u101 u102 u103 u104 u105 u106 u107 u108 u109 u110 u111 u112 : Value) (hQ : QuP wr q0 u8 (castP ((a, b) :: r))) :
    Code.wp Try.prog ren2 (Exit.then (fun a' w' => WI2 W Bf Bt g1 n cap1 lo q0 T1 T2 r0 mu0 ds c0 c1 c4 c5 c6 c13 c14 c15 c16 c17 c18 c19 c20 c21 c22 c23 c24 c25 c26 c27 c28 c29 c30 c31 c113 c114 c115 c116 c117 c118 c119 c120 c121 c122 a' w') Q0) { tmps := #[c0, c1, .pointer (some ⟨Bt, 0, none⟩), .pointer (some ⟨Bf, 0, none⟩), c4, c5, c6, .slice (some ⟨g1, 0, none⟩) n cap1, u8, u9, u10, u11, u12, c13, c14, c15, c16, c17, c18, c19, c20, c21, c22, c23, c24, c25, c26, c27, c28, c29, c30, c31, u32, u33, u34, u35, u36, u37, u38, u39, u40, u41, u42, u43, u44, u45, u46, u47, u48, u49, u50, u51, u52, u53, u54, u55, u56, u57, u58, u59, u60, u61, u62, u63, u64, u65, u66, u67, u68, u69, u70, u71, u72, u73, u74, u75, u76, u77, u78, u79, u80, u81, u82, u83, u84, u85, u86, u87, u88, u89, u90, u91, u92, u93, u94, u95, u96, u97, u98, u99, u100, u101, u102, u103, u104, u105, u106, u107, u108, u109, u110, u111, u112, c113, c114, c115, c116, c117, c118, c119, c120, c121, c122], defers := ds } wr := by
  conv => arg 2; whnf
  have hm := hC.len
  have ha := (hop (a, b) (by simp)).1
  have hb := (hop (a, b) (by simp)).2
  obtain ⟨g, off, cap, rfl, hg1', hg2, k0, k1, hcl, hcm, -, -⟩ := QuP.head (p := ((a : Int), (b : Int))) (ps := castP r) hQ
  have hcell := hO.cellJ (i := a) (by rw [encM_len, hm]; exact ha)
  rw [encM_at (by rw [hm]; exact ha), hac] at hcell
  dsimp only at hcell
  have hne1 : ((-1 : Int) == (b : Int)) = false := by rw [beq_eq_false_iff_ne]; omega
  have HCT := Lib.hid fun V (hb : Below wr.heap.size wr V) => contains_enc (b := b) (ownJ_below hO hb) (by omega) hm
  rw [decide_eq_false hbm] at HCT
  have HQ := Lib.hid hQ
  have HO := Lib.hid hO
  have HF := Lib.hid hF
  have HT := Lib.hid hT
  obtain ⟨nr, hnr⟩ : ∃ nr, nr = (castP r).length := ⟨_, rfl⟩
  rw [← hnr] at hcl HQ ⊢
  have hnl : nr ≤ maxLen := by omega
  have HN := Lib.hid hnr
  have HP := Lib.hid hm
  have HG := Lib.hid (fun c d (h : gm m c = some d) => (hC.rng c d h).2)
  have HC := Lib.hid hC
  have HR := Lib.hid hr
  have HOP := Lib.hid hop
  clear hQ hnr hO hF hT hm hC hr hop
  unfold maxLen at hnl hcm
  have k0 := cell_regrown k0
  have k1 := cell_regrown k1
  go_wp2
  refine wp_region_quiet_below (by kernel_rfl) (by kernel_rfl) ?_
  repeat (go_big_quiet_step (fail))
  refine wpQuiet_nil ?_
  intro _ hw'
  obtain ⟨⟨dq, osq⟩, hw''⟩ := hw'
  have hbq := below_regrown wr dq osq
  subst hw''
  obtain ⟨V, hV⟩ : ∃ V, V = «Sort».grow (redrawn wr dq) osq := ⟨_, rfl⟩
  rw [← hV] at hbq ⊢
  have hcell2 := (hbq.cell (p := ⟨g1, a, none⟩) (block_lt_of_cell hcell)).trans hcell
  have hBV : Below lo W V := hB.trans (hbq.mono (Nat.le_trans hlow hz))
  have hzV := Nat.le_trans hz hbq.size
  have HCV := Lib.hid (HCT.out V hbq)
  have HQV := Lib.hid (HQ.out.below hbq)
  have HOV := Lib.hid (ownJ_below HO.out hbq)
  have HFV := Lib.hid (HF.out.below hbq (Nat.le_trans hlow hz))
  have HTV := Lib.hid (HT.out.below hbq (Nat.le_trans hlow hz))
  clear hcell hV HCT HQ HO HF HT k0 k1 hB
  go_wp2_with (go_at_call 124; refine HCV.out.mono ?_; rintro e w1 ⟨rfl, rfl⟩)
  refine ren3_loop (ps := (a, b) :: r) hn (by rw [List.length_cons]; omega) hT1 HP.out HG.out ha hb hac hbm (HFV.out.limit hlow) (HTV.out.limit hlow) HOV.out hg1 _ _ _ _ _ _ _ _ _ _ _ _ _ _ _ _ _ _ _ _ _ _ _ _ _ _ _ _ _ _ _ _ _ _ _ _ _ _ _ _ _ _ _ _ _ _ _ _ _ _ _ _ _ _ _ _ _ _ _ _ _ _ _ _ _ _ _ _ ?hq ?hx (.slice (some ⟨g, off, none⟩) (nr + 1) (cap + 1)) _ _ _ _ _ _ _ _ _ _ _ _ _ _ _ _ _ _ _ _ _ _ _ _ _ _ _ _ _ _ _ _ _ _ _ _ _ _ _ _ _ _ _ _ _ _ _ HQV.out hzV
  case hq => exact fun c a a' w h => hQ0 _ a _ _ h
  intro a' w' hI
  obtain ⟨u8', hI⟩ := hI
  obtain ⟨x11, hI⟩ := hI
  obtain ⟨x12, hI⟩ := hI
  obtain ⟨x64, hI⟩ := hI
  obtain ⟨x65, hI⟩ := hI
  obtain ⟨x66, hI⟩ := hI
  obtain ⟨x67, hI⟩ := hI
  obtain ⟨x68, hI⟩ := hI
  obtain ⟨x69, hI⟩ := hI
  obtain ⟨x70, hI⟩ := hI
  obtain ⟨x71, hI⟩ := hI
  obtain ⟨x72, hI⟩ := hI
  obtain ⟨x73, hI⟩ := hI
  obtain ⟨x74, hI⟩ := hI
  obtain ⟨x75, hI⟩ := hI
  obtain ⟨x76, hI⟩ := hI
  obtain ⟨x77, hI⟩ := hI
  obtain ⟨x78, hI⟩ := hI
  obtain ⟨x79, hI⟩ := hI
  obtain ⟨x80, hI⟩ := hI
  obtain ⟨x81, hI⟩ := hI
  obtain ⟨x82, hI⟩ := hI
  obtain ⟨x83, hI⟩ := hI
  obtain ⟨x84, hI⟩ := hI
  obtain ⟨x85, hI⟩ := hI
  obtain ⟨x86, hI⟩ := hI
  obtain ⟨x87, hI⟩ := hI
  obtain ⟨x88, hI⟩ := hI
  obtain ⟨x89, hI⟩ := hI
  obtain ⟨x90, hI⟩ := hI
  obtain ⟨x91, hI⟩ := hI
  obtain ⟨x92, hI⟩ := hI
  obtain ⟨x93, hI⟩ := hI
  obtain ⟨x94, hI⟩ := hI
  obtain ⟨x95, hI⟩ := hI
  obtain ⟨x96, hI⟩ := hI
  obtain ⟨x97, hI⟩ := hI
  obtain ⟨x98, hI⟩ := hI
  obtain ⟨x99, hI⟩ := hI
  obtain ⟨x100, hI⟩ := hI
  obtain ⟨x101, hI⟩ := hI
  obtain ⟨x102, hI⟩ := hI
  obtain ⟨x103, hI⟩ := hI
  obtain ⟨x104, hI⟩ := hI
  obtain ⟨x105, hI⟩ := hI
  obtain ⟨x106, hI⟩ := hI
  obtain ⟨x107, hI⟩ := hI
  obtain ⟨x108, hI⟩ := hI
  obtain ⟨hQ', hB', hz', rfl⟩ := hI
  rw [List.cons_append] at hQ'
  obtain ⟨g2, off2, cap2, rfl, -, -, -, -, hcl2, hcm2, hQ3, hQ4⟩ := QuP.head (p := ((a : Int), (b : Int))) (ps := castP (r ++ news n T1 T2 m a b)) hQ'
  obtain ⟨nr2, hnr2⟩ : ∃ nr2, nr2 = (castP (r ++ news n T1 T2 m a b)).length := ⟨_, rfl⟩
  have HOw := ownJ_lim HOV.out hB' hg1
  obtain ⟨s1, s2, s3, s4, s5⟩ := HOw.atR (i := a) (by rw [encM_len, HP.out]; exact ha)
  obtain ⟨hO5, hg5⟩ := HOw.setR (i := a) (x := (b : Int)) (by rw [encM_len, HP.out]; exact ha)
  rw [encM_set] at hO5
  have HO5 := Lib.hid hO5
  have HQ3 := Lib.hid (hQ3.kept hg5 (fun r e => by cases e; exact hg1))
  have HQ4 := Lib.hid (fun e => (hQ4 e).kept hg5 (fun r e => by cases e; exact hg1))
  rw [← hnr2] at hcl2 HQ3 HQ4 ⊢
  have hnl2 : nr2 ≤ maxLen := by omega
  have HN2 := Lib.hid hnr2
  clear hQ' hQ3 hQ4 hnr2 hO5 HOw s4
  unfold maxLen at hnl2 hcm2
  obtain ⟨f', rfl⟩ : ∃ f', f = f' + 1 := ⟨f - 1, by omega⟩
  have hal : a < m.length := by rw [HP.out]; exact ha
  have HC2 := Lib.hid (Cl.put hT1 hT2 HC.out ha hb hac hbm)
  have HOP2 := Lib.hid (show OpL n (r ++ news n T1 T2 m a b) from fun p hp => by
    rcases List.mem_append.1 hp with h | h
    · exact HOP.out p (List.mem_cons_of_mem _ h)
    · obtain ⟨c, d, hc, hd, _, rfl⟩ := news_mem.1 h
      have hd2 := (HC.out.rng c d hd).2
      exact ⟨hT1.lt a c ha hc (fun e => by rw [← e, hac] at hd; cases hd), hT2.lt b d hb hd2 (fun e => hbm (gm_mem.2 ⟨c, by rw [HP.out]; exact hc, by rw [e]; exact hd⟩))⟩)
  have HR2 := Lib.hid (show r0 = prop n T1 T2 f' (m.set a (some b)) (r ++ news n T1 T2 m a b) by rw [HR.out]; simp [prop, hac, hbm])
  have hmu : mu n (m.set a (some b)) (r ++ news n T1 T2 m a b) < mu n m ((a, b) :: r) := by
    have h1 := unk_set (b := b) hal hac
    have h2 := news_len (n := n) (T1 := T1) (T2 := T2) m a b
    unfold mu
    rw [← h1, Nat.add_mul, List.length_append, List.length_cons]
    omega
  have HM1 := Lib.hid (show mu n (m.set a (some b)) (r ++ news n T1 T2 m a b) < f' by omega)
  have HM2 := Lib.hid (show mu n (m.set a (some b)) (r ++ news n T1 T2 m a b) < mu0 by omega)
  have HBL := Lib.hid ((hBV.trans (hB'.mono hlow)).setCell (p := ⟨g1, a, none⟩) s2 (.int .i64 (b : Int)))
  have HZ := Lib.hid (Nat.le_trans hz' hg5.size)
  clear hmu hf h0 hg5
  go_wp2
  all_goals
    first
    | exact ⟨m.set a (some b), r ++ news n T1 T2 m a b, f', _, _, _, _, _, _, _, _, _, _, _, _, _, _, _, _, _, _, _, _, _, _, _, _, _, _, _, _, _, _, _, _, _, _, _, _, _, _, _, _, _, _, _, _, _, _, _, _, _, _, _, _, _, _, _, _, _, _, _, _, _, _, _, _, _, _, _, _, _, _, _, _, _, _, _, _, _, _, _, _, _, _, _, _, _, _, HQ3.out, HO5.out, HC2.out, HOP2.out, HM1.out, HM2.out, HR2.out, HBL.out, HZ.out, rfl⟩
    | (have hc0 : cap2 = 0 := by assumption
       subst hc0
       exact ⟨m.set a (some b), r ++ news n T1 T2 m a b, f', _, _, _, _, _, _, _, _, _, _, _, _, _, _, _, _, _, _, _, _, _, _, _, _, _, _, _, _, _, _, _, _, _, _, _, _, _, _, _, _, _, _, _, _, _, _, _, _, _, _, _, _, _, _, _, _, _, _, _, _, _, _, _, _, _, _, _, _, _, _, _, _, _, _, _, _, _, _, _, _, _, _, _, _, _, _, HQ4.out rfl, HO5.out, HC2.out, HOP2.out, HM1.out, HM2.out, HR2.out, HBL.out, HZ.out, rfl⟩)
theorem least_of {p : Nat → Prop} (h : ∃ k, p k) : ∃ k, p k ∧ ∀ i, p i → k ≤ i := by
  obtain ⟨k, hk⟩ := h
  induction k using Nat.strongRecOn with
  | ind k ih =>
    by_cases h : ∃ i, i < k ∧ p i
    · obtain ⟨i, h1, h2⟩ := h
      exact ih i h1 h2
    · refine ⟨k, hk, fun i hi => ?_⟩
      by_cases hl : i < k
      · exact absurd ⟨i, hl, hi⟩ h
      · omega
open Classical in
noncomputable def leastN (p : Nat → Prop) : Nat := if h : ∃ k, p k then Classical.choose (least_of h) else 0
theorem leastN_spec {p : Nat → Prop} (h : ∃ k, p k) : p (leastN p) ∧ ∀ i, p i → leastN p ≤ i := by
  unfold leastN
  rw [dif_pos h]
  exact Classical.choose_spec (least_of h)
/-- A loop by a number that falls, where the number is not told by the frame. -/
theorem wp_loop_nat {P : Program} {c : Code} {Q : Exit → Act → World → Prop} (I : Nat → Act → World → Prop) {j : Nat} {a : Act} {w : World} (h0 : I j a w)
    (round : ∀ j a w, I j a w → c.wp P (Exit.then (fun a' w' => ∃ i, i < j ∧ I i a' w') Q) a w) : (Code.loop c).wp P Q a w := by
  refine wp_loop (fun a w => ∃ j, I j a w) (fun a w => leastN fun j => I j a w) ⟨j, h0⟩ ?_
  intro a w h
  refine wp_mono (round _ a w (leastN_spec h).1) (fun e a' w' hq => ?_)
  cases e with
  | normal =>
    obtain ⟨i, hi, hI⟩ := hq
    exact ⟨⟨i, hI⟩, Nat.lt_of_le_of_lt ((leastN_spec ⟨i, hI⟩).2 i hI) hi⟩
  | _ => exact hq
set_option maxRecDepth 1000000 in
set_option maxHeartbeats 4000000 in
theorem ren2_loop {W : World} {Bf Bt g1 n cap1 lo q0 : Nat} {op : List (Nat × Nat)} {T1 T2 : Nat → Nat → Nat} {m : List (Option Nat)} {ds : List Deferred} (hn : n ≤ 15) (hT1 : Thd n T1) (hT2 : Thd n T2)
    (hC : Cl n T1 T2 m op) (hop : OpL n op) (hmu0 : mu n m op ≤ 10000)
    (hF : TbR W lo Bf n T1) (hT : TbR W lo Bt n T2) (hg1 : g1 < q0)
    (hO : OwnJ W lo (.slice (some ⟨g1, 0, none⟩) n cap1) (encM m)) (hlow : lo ≤ q0) (hz : q0 ≤ W.heap.size)
    (c0 c1 c4 c5 c6 c13 c14 c15 c16 c17 c18 c19 c20 c21 c22 c23 c24 c25 c26 c27 c28 c29 c30 c31 c113 c114 c115 c116 c117 c118 c119 c120 c121 c122 : Value) (Q0 : Exit → Act → World → Prop) (hQ0 : ∀ c a a' w, Q0 (.panic c) a w → Q0 (.panic c) a' w)
    (hfail : prop n T1 T2 (mu n m op + 1) m op = none → ∀ a' w', (∃ (u8 : Value) (u9 u10 u11 u12 u32 u33 u34 u35 u36 u37 u38 u39 u40 u41 u42 u43 u44 u45 u46 u47 u48 u49 u50 u51 u52 u53 u54 u55 u56 u57 u58 u59 u60 u61 u62 u63 u64 u65 u66 u67 u68 u69 u70 u71 u72 u73 u74 u75 u76 u77 u78 u79 u80 u81 u82 u83 u84 u85 u86 u87 u88 u89 u90 u91 u92 u93 u94 u95 u96 u97 u98 u99 u100 u101 u102 u103 u104 u105 u106 u107 u108 u109 u110 u111 u112 : Value), Below lo W w' ∧ q0 ≤ w'.heap.size ∧ a' = { tmps := #[c0, c1, .pointer (some ⟨Bt, 0, none⟩), .pointer (some ⟨Bf, 0, none⟩), c4, c5, c6, .slice (some ⟨g1, 0, none⟩) n cap1, u8, u9, u10, u11, u12, c13, c14, c15, c16, c17, c18, c19, c20, c21, c22, c23, c24, c25, c26, c27, c28, c29, c30, c31, u32, u33, u34, u35, u36, u37, u38, u39, u40, u41, u42, u43, u44, u45, u46, u47, u48, u49, u50, u51, u52, u53, u54, u55, u56, u57, u58, u59, u60, u61, u62, u63, u64, u65, u66, u67, u68, u69, u70, u71, u72, u73, u74, u75, u76, u77, u78, u79, u80, u81, u82, u83, u84, u85, u86, u87, u88, u89, u90, u91, u92, u93, u94, u95, u96, u97, u98, u99, u100, u101, u102, u103, u104, u105, u106, u107, u108, u109, u110, u111, u112, c113, c114, c115, c116, c117, c118, c119, c120, c121, c122], defers := ds }) → Q0 (.exit 1) a' w')
    (hdone : ∀ m', prop n T1 T2 (mu n m op + 1) m op = some m' → ∀ a' w', (∃ (u8 : Value) (u9 u10 u11 u12 u32 u33 u34 u35 u36 u37 u38 u39 u40 u41 u42 u43 u44 u45 u46 u47 u48 u49 u50 u51 u52 u53 u54 u55 u56 u57 u58 u59 u60 u61 u62 u63 u64 u65 u66 u67 u68 u69 u70 u71 u72 u73 u74 u75 u76 u77 u78 u79 u80 u81 u82 u83 u84 u85 u86 u87 u88 u89 u90 u91 u92 u93 u94 u95 u96 u97 u98 u99 u100 u101 u102 u103 u104 u105 u106 u107 u108 u109 u110 u111 u112 : Value), OwnJ w' lo (.slice (some ⟨g1, 0, none⟩) n cap1) (encM m') ∧ Below lo W w' ∧ q0 ≤ w'.heap.size ∧ a' = { tmps := #[c0, c1, .pointer (some ⟨Bt, 0, none⟩), .pointer (some ⟨Bf, 0, none⟩), c4, c5, c6, .slice (some ⟨g1, 0, none⟩) n cap1, u8, u9, u10, u11, u12, c13, c14, c15, c16, c17, c18, c19, c20, c21, c22, c23, c24, c25, c26, c27, c28, c29, c30, c31, u32, u33, u34, u35, u36, u37, u38, u39, u40, u41, u42, u43, u44, u45, u46, u47, u48, u49, u50, u51, u52, u53, u54, u55, u56, u57, u58, u59, u60, u61, u62, u63, u64, u65, u66, u67, u68, u69, u70, u71, u72, u73, u74, u75, u76, u77, u78, u79, u80, u81, u82, u83, u84, u85, u86, u87, u88, u89, u90, u91, u92, u93, u94, u95, u96, u97, u98, u99, u100, u101, u102, u103, u104, u105, u106, u107, u108, u109, u110, u111, u112, c113, c114, c115, c116, c117, c118, c119, c120, c121, c122], defers := ds }) → Q0 (.exit 2) a' w')
    (u8 : Value) (u9 u10 u11 u12 u32 u33 u34 u35 u36 u37 u38 u39 u40 u41 u42 u43 u44 u45 u46 u47 u48 u49 u50 u51 u52 u53 u54 u55 u56 u57 u58 u59 u60 u61 u62 u63 u64 u65 u66 u67 u68 u69 u70 u71 u72 u73 u74 u75 u76 u77 u78 u79 u80 u81 u82 u83 u84 u85 u86 u87 u88 u89 u90 u91 u92 u93 u94 u95 u96 u97 u98 u99 u100 u101 u102 u103 u104 u105 u106 u107 u108 u109 u110 u111 u112 : Value) (hQ : QuP W q0 u8 (castP op)) :
    Code.wp Try.prog (Code.loop ren2) Q0 { tmps := #[c0, c1, .pointer (some ⟨Bt, 0, none⟩), .pointer (some ⟨Bf, 0, none⟩), c4, c5, c6, .slice (some ⟨g1, 0, none⟩) n cap1, u8, u9, u10, u11, u12, c13, c14, c15, c16, c17, c18, c19, c20, c21, c22, c23, c24, c25, c26, c27, c28, c29, c30, c31, u32, u33, u34, u35, u36, u37, u38, u39, u40, u41, u42, u43, u44, u45, u46, u47, u48, u49, u50, u51, u52, u53, u54, u55, u56, u57, u58, u59, u60, u61, u62, u63, u64, u65, u66, u67, u68, u69, u70, u71, u72, u73, u74, u75, u76, u77, u78, u79, u80, u81, u82, u83, u84, u85, u86, u87, u88, u89, u90, u91, u92, u93, u94, u95, u96, u97, u98, u99, u100, u101, u102, u103, u104, u105, u106, u107, u108, u109, u110, u111, u112, c113, c114, c115, c116, c117, c118, c119, c120, c121, c122], defers := ds } W := by
  obtain ⟨r0, hr0⟩ : ∃ r0, r0 = prop n T1 T2 (mu n m op + 1) m op := ⟨_, rfl⟩
  rw [← hr0] at hfail
  have hdone : ∀ m', r0 = some m' → ∀ a' w', (∃ (u8 : Value) (u9 u10 u11 u12 u32 u33 u34 u35 u36 u37 u38 u39 u40 u41 u42 u43 u44 u45 u46 u47 u48 u49 u50 u51 u52 u53 u54 u55 u56 u57 u58 u59 u60 u61 u62 u63 u64 u65 u66 u67 u68 u69 u70 u71 u72 u73 u74 u75 u76 u77 u78 u79 u80 u81 u82 u83 u84 u85 u86 u87 u88 u89 u90 u91 u92 u93 u94 u95 u96 u97 u98 u99 u100 u101 u102 u103 u104 u105 u106 u107 u108 u109 u110 u111 u112 : Value), OwnJ w' lo (.slice (some ⟨g1, 0, none⟩) n cap1) (encM m') ∧ Below lo W w' ∧ q0 ≤ w'.heap.size ∧ a' = { tmps := #[c0, c1, .pointer (some ⟨Bt, 0, none⟩), .pointer (some ⟨Bf, 0, none⟩), c4, c5, c6, .slice (some ⟨g1, 0, none⟩) n cap1, u8, u9, u10, u11, u12, c13, c14, c15, c16, c17, c18, c19, c20, c21, c22, c23, c24, c25, c26, c27, c28, c29, c30, c31, u32, u33, u34, u35, u36, u37, u38, u39, u40, u41, u42, u43, u44, u45, u46, u47, u48, u49, u50, u51, u52, u53, u54, u55, u56, u57, u58, u59, u60, u61, u62, u63, u64, u65, u66, u67, u68, u69, u70, u71, u72, u73, u74, u75, u76, u77, u78, u79, u80, u81, u82, u83, u84, u85, u86, u87, u88, u89, u90, u91, u92, u93, u94, u95, u96, u97, u98, u99, u100, u101, u102, u103, u104, u105, u106, u107, u108, u109, u110, u111, u112, c113, c114, c115, c116, c117, c118, c119, c120, c121, c122], defers := ds }) → Q0 (.exit 2) a' w' := fun m' h => hdone m' (by rw [← hr0]; exact h)
  refine wp_loop_nat (fun j a' w' => j ≤ 10001 ∧ WI2 W Bf Bt g1 n cap1 lo q0 T1 T2 r0 j ds c0 c1 c4 c5 c6 c13 c14 c15 c16 c17 c18 c19 c20 c21 c22 c23 c24 c25 c26 c27 c28 c29 c30 c31 c113 c114 c115 c116 c117 c118 c119 c120 c121 c122 a' w') (j := mu n m op + 1) ?_ ?_
  · exact ⟨by omega, m, op, mu n m op + 1, u8, u9, u10, u11, u12, u32, u33, u34, u35, u36, u37, u38, u39, u40, u41, u42, u43, u44, u45, u46, u47, u48, u49, u50, u51, u52, u53, u54, u55, u56, u57, u58, u59, u60, u61, u62, u63, u64, u65, u66, u67, u68, u69, u70, u71, u72, u73, u74, u75, u76, u77, u78, u79, u80, u81, u82, u83, u84, u85, u86, u87, u88, u89, u90, u91, u92, u93, u94, u95, u96, u97, u98, u99, u100, u101, u102, u103, u104, u105, u106, u107, u108, u109, u110, u111, u112, hQ, hO, hC, hop, Nat.lt_succ_self _, Nat.lt_succ_self _, hr0, Below.refl _ _, hz, rfl⟩
  clear hC hop hO hQ hr0 hmu0
  intro j a' wr hI
  obtain ⟨hj, hI⟩ := hI
  obtain ⟨m, hI⟩ := hI
  obtain ⟨op, hI⟩ := hI
  obtain ⟨f, hI⟩ := hI
  obtain ⟨u8, hI⟩ := hI
  obtain ⟨u9, hI⟩ := hI
  obtain ⟨u10, hI⟩ := hI
  obtain ⟨u11, hI⟩ := hI
  obtain ⟨u12, hI⟩ := hI
  obtain ⟨u32, hI⟩ := hI
  obtain ⟨u33, hI⟩ := hI
  obtain ⟨u34, hI⟩ := hI
  obtain ⟨u35, hI⟩ := hI
  obtain ⟨u36, hI⟩ := hI
  obtain ⟨u37, hI⟩ := hI
  obtain ⟨u38, hI⟩ := hI
  obtain ⟨u39, hI⟩ := hI
  obtain ⟨u40, hI⟩ := hI
  obtain ⟨u41, hI⟩ := hI
  obtain ⟨u42, hI⟩ := hI
  obtain ⟨u43, hI⟩ := hI
  obtain ⟨u44, hI⟩ := hI
  obtain ⟨u45, hI⟩ := hI
  obtain ⟨u46, hI⟩ := hI
  obtain ⟨u47, hI⟩ := hI
  obtain ⟨u48, hI⟩ := hI
  obtain ⟨u49, hI⟩ := hI
  obtain ⟨u50, hI⟩ := hI
  obtain ⟨u51, hI⟩ := hI
  obtain ⟨u52, hI⟩ := hI
  obtain ⟨u53, hI⟩ := hI
  obtain ⟨u54, hI⟩ := hI
  obtain ⟨u55, hI⟩ := hI
  obtain ⟨u56, hI⟩ := hI
  obtain ⟨u57, hI⟩ := hI
  obtain ⟨u58, hI⟩ := hI
  obtain ⟨u59, hI⟩ := hI
  obtain ⟨u60, hI⟩ := hI
  obtain ⟨u61, hI⟩ := hI
  obtain ⟨u62, hI⟩ := hI
  obtain ⟨u63, hI⟩ := hI
  obtain ⟨u64, hI⟩ := hI
  obtain ⟨u65, hI⟩ := hI
  obtain ⟨u66, hI⟩ := hI
  obtain ⟨u67, hI⟩ := hI
  obtain ⟨u68, hI⟩ := hI
  obtain ⟨u69, hI⟩ := hI
  obtain ⟨u70, hI⟩ := hI
  obtain ⟨u71, hI⟩ := hI
  obtain ⟨u72, hI⟩ := hI
  obtain ⟨u73, hI⟩ := hI
  obtain ⟨u74, hI⟩ := hI
  obtain ⟨u75, hI⟩ := hI
  obtain ⟨u76, hI⟩ := hI
  obtain ⟨u77, hI⟩ := hI
  obtain ⟨u78, hI⟩ := hI
  obtain ⟨u79, hI⟩ := hI
  obtain ⟨u80, hI⟩ := hI
  obtain ⟨u81, hI⟩ := hI
  obtain ⟨u82, hI⟩ := hI
  obtain ⟨u83, hI⟩ := hI
  obtain ⟨u84, hI⟩ := hI
  obtain ⟨u85, hI⟩ := hI
  obtain ⟨u86, hI⟩ := hI
  obtain ⟨u87, hI⟩ := hI
  obtain ⟨u88, hI⟩ := hI
  obtain ⟨u89, hI⟩ := hI
  obtain ⟨u90, hI⟩ := hI
  obtain ⟨u91, hI⟩ := hI
  obtain ⟨u92, hI⟩ := hI
  obtain ⟨u93, hI⟩ := hI
  obtain ⟨u94, hI⟩ := hI
  obtain ⟨u95, hI⟩ := hI
  obtain ⟨u96, hI⟩ := hI
  obtain ⟨u97, hI⟩ := hI
  obtain ⟨u98, hI⟩ := hI
  obtain ⟨u99, hI⟩ := hI
  obtain ⟨u100, hI⟩ := hI
  obtain ⟨u101, hI⟩ := hI
  obtain ⟨u102, hI⟩ := hI
  obtain ⟨u103, hI⟩ := hI
  obtain ⟨u104, hI⟩ := hI
  obtain ⟨u105, hI⟩ := hI
  obtain ⟨u106, hI⟩ := hI
  obtain ⟨u107, hI⟩ := hI
  obtain ⟨u108, hI⟩ := hI
  obtain ⟨u109, hI⟩ := hI
  obtain ⟨u110, hI⟩ := hI
  obtain ⟨u111, hI⟩ := hI
  obtain ⟨u112, hI⟩ := hI
  obtain ⟨hQ, hO, hC, hop, hf, hj2, hr, hB, hz, rfl⟩ := hI
  have hlen : op.length ≤ mu n m op := by unfold mu; omega
  have hF := hF.below hB (Nat.le_refl _)
  have hT := hT.below hB (Nat.le_refl _)
  have next : ∀ {Q : Exit → Act → World → Prop} {a : Act} {w : World}, Code.wp Try.prog ren2 (Exit.then (fun a' w' => WI2 W Bf Bt g1 n cap1 lo q0 T1 T2 r0 (mu n m op) ds c0 c1 c4 c5 c6 c13 c14 c15 c16 c17 c18 c19 c20 c21 c22 c23 c24 c25 c26 c27 c28 c29 c30 c31 c113 c114 c115 c116 c117 c118 c119 c120 c121 c122 a' w') Q) a w → Code.wp Try.prog ren2 (Exit.then (fun a' w' => ∃ i, i < j ∧ (i ≤ 10001 ∧ WI2 W Bf Bt g1 n cap1 lo q0 T1 T2 r0 i ds c0 c1 c4 c5 c6 c13 c14 c15 c16 c17 c18 c19 c20 c21 c22 c23 c24 c25 c26 c27 c28 c29 c30 c31 c113 c114 c115 c116 c117 c118 c119 c120 c121 c122 a' w')) Q) a w := fun h => wp_mono h (fun e a w hq => by
    cases e <;> first | exact ⟨mu n m op, hj2, by omega, hq⟩ | exact hq)
  cases op with
  | nil =>
    have hX := Lib.hid (hdone m (by rw [hr]; obtain ⟨f', rfl⟩ : ∃ f', f = f' + 1 := ⟨f - 1, by omega⟩; rfl))
    have HQ := Lib.hid hQ
    have HO := Lib.hid hO
    obtain ⟨g, off, cap, cur, rfl, -⟩ := hQ
    clear hfail hdone hO hr hC
    conv => arg 2; whnf
    go_wp2
    exact hX.out _ _ ⟨_, _, _, _, _, _, _, _, _, _, _, _, _, _, _, _, _, _, _, _, _, _, _, _, _, _, _, _, _, _, _, _, _, _, _, _, _, _, _, _, _, _, _, _, _, _, _, _, _, _, _, _, _, _, _, _, _, _, _, _, _, _, _, _, _, _, _, _, _, _, _, _, _, _, _, _, _, _, _, _, _, _, _, _, _, _, HO.out, hB, hz, rfl⟩
  | cons p r =>
    obtain ⟨a, b⟩ := p
    have ha := (hop (a, b) (by simp)).1
    have hb := (hop (a, b) (by simp)).2
    obtain ⟨f', rfl⟩ : ∃ f', f = f' + 1 := ⟨f - 1, by omega⟩
    cases hac : gm m a with
    | some c =>
      by_cases hcb : c = b
      · subst hcb
        exact next (ren2_same hn hC hop hf (Nat.le_refl _) hr hac hO hB hlow hz c0 c1 c4 c5 c6 c13 c14 c15 c16 c17 c18 c19 c20 c21 c22 c23 c24 c25 c26 c27 c28 c29 c30 c31 c113 c114 c115 c116 c117 c118 c119 c120 c121 c122 Q0 u8 u9 u10 u11 u12 u32 u33 u34 u35 u36 u37 u38 u39 u40 u41 u42 u43 u44 u45 u46 u47 u48 u49 u50 u51 u52 u53 u54 u55 u56 u57 u58 u59 u60 u61 u62 u63 u64 u65 u66 u67 u68 u69 u70 u71 u72 u73 u74 u75 u76 u77 u78 u79 u80 u81 u82 u83 u84 u85 u86 u87 u88 u89 u90 u91 u92 u93 u94 u95 u96 u97 u98 u99 u100 u101 u102 u103 u104 u105 u106 u107 u108 u109 u110 u111 u112 hQ)
      · exact ren2_known hn hC.len ha hb hac hcb hO hB hlow hz c0 c1 c4 c5 c6 c13 c14 c15 c16 c17 c18 c19 c20 c21 c22 c23 c24 c25 c26 c27 c28 c29 c30 c31 c113 c114 c115 c116 c117 c118 c119 c120 c121 c122 Q0 _ (hfail (by rw [hr]; simp [prop, hac, hcb])) u8 u9 u10 u11 u12 u32 u33 u34 u35 u36 u37 u38 u39 u40 u41 u42 u43 u44 u45 u46 u47 u48 u49 u50 u51 u52 u53 u54 u55 u56 u57 u58 u59 u60 u61 u62 u63 u64 u65 u66 u67 u68 u69 u70 u71 u72 u73 u74 u75 u76 u77 u78 u79 u80 u81 u82 u83 u84 u85 u86 u87 u88 u89 u90 u91 u92 u93 u94 u95 u96 u97 u98 u99 u100 u101 u102 u103 u104 u105 u106 u107 u108 u109 u110 u111 u112 hQ
    | none =>
      by_cases hbm : some b ∈ m
      · exact ren2_taken hn hC.len ha hb hac hbm hO hB hlow hz c0 c1 c4 c5 c6 c13 c14 c15 c16 c17 c18 c19 c20 c21 c22 c23 c24 c25 c26 c27 c28 c29 c30 c31 c113 c114 c115 c116 c117 c118 c119 c120 c121 c122 Q0 _ (hfail (by rw [hr]; simp [prop, hac, hbm])) u8 u9 u10 u11 u12 u32 u33 u34 u35 u36 u37 u38 u39 u40 u41 u42 u43 u44 u45 u46 u47 u48 u49 u50 u51 u52 u53 u54 u55 u56 u57 u58 u59 u60 u61 u62 u63 u64 u65 u66 u67 u68 u69 u70 u71 u72 u73 u74 u75 u76 u77 u78 u79 u80 u81 u82 u83 u84 u85 u86 u87 u88 u89 u90 u91 u92 u93 u94 u95 u96 u97 u98 u99 u100 u101 u102 u103 u104 u105 u106 u107 u108 u109 u110 u111 u112 hQ
      · exact next (ren2_put hn (by rw [List.length_cons] at hlen; omega) hT1 hT2 hC hop hf (Nat.le_refl _) hr hac hbm hF hT hg1 hO hB hlow hz c0 c1 c4 c5 c6 c13 c14 c15 c16 c17 c18 c19 c20 c21 c22 c23 c24 c25 c26 c27 c28 c29 c30 c31 c113 c114 c115 c116 c117 c118 c119 c120 c121 c122 Q0 hQ0 u8 u9 u10 u11 u12 u32 u33 u34 u35 u36 u37 u38 u39 u40 u41 u42 u43 u44 u45 u46 u47 u48 u49 u50 u51 u52 u53 u54 u55 u56 u57 u58 u59 u60 u61 u62 u63 u64 u65 u66 u67 u68 u69 u70 u71 u72 u73 u74 u75 u76 u77 u78 u79 u80 u81 u82 u83 u84 u85 u86 u87 u88 u89 u90 u91 u92 u93 u94 u95 u96 u97 u98 u99 u100 u101 u102 u103 u104 u105 u106 u107 u108 u109 u110 u111 u112 hQ)
end Go.Proofs.Ytoicdfdfajfopaa

namespace Go.Proofs.Ytoicdfdfajfopaa
open Go.RowKit Go.Maps
theorem OwnJ.made0 (W : World) {base : Nat} (n : Nat) (hn : n ≤ 1100000) (hb : base ≤ W.heap.size) : OwnJ (W.alloc (.cells (madeCells #[.int .i64 0] n) 2)) base (.slice (some ⟨W.heap.size, 0, none⟩) n n) (List.replicate n 0) := by
  have hml : 1100000 ≤ maxLen := by decide
  unfold OwnJ World.ownsRow
  refine ⟨by simp, .inr ⟨W.heap.size, n, madeCells #[.int .i64 0] n, by simp, hb, World.alloc_heap_new W _, by simp, by omega, by simp [madeCells], ?_⟩⟩
  apply List.ext_getElem
  · simp [madeCells]
  · intro i h1 h2
    simp [madeCells, Nat.mod_one]
end Go.Proofs.Ytoicdfdfajfopaa

namespace Go.Proofs.Ytoicdfdfajfopaa
open Go.RowKit Go.Maps
/-- How many blocks go through each of the first k points. -/
def degI (bs : List Blk) (k : Nat) : List Int := (List.range k).map fun (q : Nat) => ((idxI (q : Int) bs bs.length).length : Int)
theorem degI_succ (bs : List Blk) (k : Nat) : degI bs (k + 1) = degI bs k ++ [((idxI (k : Int) bs bs.length).length : Int)] := by
  simp [degI, List.range_succ]
theorem degI_len (bs : List Blk) (k : Nat) : (degI bs k).length = k := by simp [degI]
def degF (v : Int) (bs : List Blk) : List Int × Int := if isSysImpl v bs then (degI bs v.toNat, 0) else ([], 1)
end Go.Proofs.Ytoicdfdfajfopaa

namespace Go.Proofs.Ytoicdfdfajfopaa
open Go.RowKit Go.Maps
theorem mkRow (n : Nat) (hn : n ≤ 1100000) (W : World) : (Instr.makeSlice 25 (.int .i64 (n : Int)) (.int .i64 (n : Int))).run Try.prog W = .ok (.slice (some ⟨W.heap.size, 0, none⟩) n n) (W.alloc (.cells (madeCells #[.int .i64 0] n) 2)) := by
  obtain ⟨i0, hi, hz0, hz1, hz2⟩ := info_parts infoInt64
  have hr := run_make (P := Try.prog) W 25 2 i0 (.int .i64 0) Try.underlying25 hi hz0 .i64 .i64 n n (by omega) (by omega) (by rw [hz2]; omega) (by omega)
  simp only [Int.toNat_natCast, hz1, Nat.mul_one] at hr
  exact hr
end Go.Proofs.Ytoicdfdfajfopaa

namespace Go.Proofs.Ytoicdfdfajfopaa
open Go.RowKit Go.Maps
theorem copy_next (zs : List Int) {k : Nat} (hk : k < zs.length) : (zs.take k ++ List.replicate (zs.length - k) 0).set k (zs[k]?.getD 0) = zs.take (k + 1) ++ List.replicate (zs.length - (k + 1)) 0 := by
  rw [show zs.length - k = (zs.length - (k + 1)) + 1 by omega, List.replicate_succ, List.set_append_right _ _ (by simp; omega), List.length_take, show k - min k zs.length = 0 by omega, List.set_cons_zero, List.take_add_one, List.append_assoc]
  simp [hk]
set_option maxRecDepth 100000 in
theorem toInt64S_any (s : Value) (zs : List Int) (w : World) (h : IB w s zs) :
    Calls Try.prog 18 #[s] w (fun e w' => e = .returned (.slice (some ⟨w.heap.size, 0, none⟩) zs.length zs.length) ∧ Below w.heap.size w w' ∧ OwnAtI w' w.heap.size zs) := by
  obtain ⟨hlen, h3⟩ := h
  rcases h3 with ⟨a0, c0, rfl, rfl⟩ | ⟨b, off, cap, rfl, hlt, hI⟩
  · have hm := mkRow 0 (by omega)
    simp only [Int.natCast_zero] at hm
    clear hlen
    go_enter Try.func18, Try.ntmps18
    go_wp2
    refine wp_loop_rounds 1 ?_
    rw [rounds_succ]
    go_wp2
    go_ret
    exact ⟨rfl, (Below.refl _ _).alloc (Nat.le_refl _) _, ⟨by simp, fun k hk => by simp at hk, fun o => by simp⟩⟩
  · have hm := mkRow zs.length hlen
    have HI := Lib.hid hI
    clear hI
    go_enter Try.func18, Try.ntmps18
    go_wp2
    go_loopw [4] (fun i wr => ∃ k : Nat, k ≤ zs.length ∧ i = .int .i64 k ∧ Below w.heap.size w wr ∧ OwnAtI wr w.heap.size (zs.take k ++ List.replicate (zs.length - k) 0)) (fun i _ => zs.length - (intOf i).toNat)
    case atStart => exact ⟨0, Nat.zero_le _, rfl, (Below.refl _ _).alloc (Nat.le_refl _) _, by simpa using made_ints w zs.length _⟩
    case round =>
      obtain ⟨k, hk, rfl, hB, ho⟩ := hrel
      by_cases hkl : k < zs.length
      · have c0 := (hB.cell (p := ⟨b, off + k, none⟩) hlt).trans (HI.out k hkl)
        have hlk : k < (zs.take k ++ List.replicate (zs.length - k) 0).length := by simp; omega
        have c1 := ho.at_ k hlk
        rw [Nat.zero_add] at c1
        have f1 := ho.free
        have hs := Ints.set ho.at_ hlk (zs[k]?.getD 0)
        rw [copy_next zs hkl] at hs
        have hzlt := ho.lt
        obtain ⟨z, hz⟩ : ∃ z, z = zs[k]?.getD 0 := ⟨_, rfl⟩
        rw [← hz] at c0 hs
        have HS := Lib.hid hs
        clear hz hs ho
        have g0 : (0 : Int) ≤ (k : Int) := by omega
        have g1 : (k : Int) < (zs.length : Int) := by omega
        go_wp2
        go_roundw
        case rel => exact ⟨k + 1, by omega, by go_num, hB.setCell (p := ⟨w.heap.size, k, none⟩) (Nat.le_refl _) _, ⟨by simpa [World.setCell] using hzlt, HS.out, fun o => by rw [World.frozen?_setCell]; exact f1 o⟩⟩
        case measure => simp [intOf]; omega
      · go_wp2
        go_ret
        have e : k = zs.length := by omega
        subst e
        exact ⟨rfl, hB, by simpa using ho⟩
end Go.Proofs.Ytoicdfdfajfopaa

namespace Go.Proofs.Ytoicdfdfajfopaa
open Go.RowKit Go.Maps
/-- How many elements rows of these lengths hold, the first k of them. -/
def totL (l : Nat → Nat) : Nat → Nat
  | 0 => 0
  | k + 1 => totL l k + l k
theorem totL_le (l : Nat → Nat) {j n : Nat} (h : j ≤ n) : totL l j ≤ totL l n := by
  induction h with
  | refl => exact Nat.le_refl _
  | step _ ih => exact Nat.le_trans ih (by simp [totL])
/-- A slice of n slices of these lengths. -/
def HeadS (w : World) (s : Value) (n : Nat) (l : Nat → Nat) : Prop :=
  (n = 0 ∧ ∃ a c, s = .slice a 0 c) ∨ ∃ b off cap, s = .slice (some ⟨b, off, none⟩) n cap ∧ ∀ k, k < n → (l k : Int) ≤ 9223372036854775807 ∧ ∃ a c, w.cell? ⟨b, off + k, none⟩ = some (.slice a (l k) c)
theorem HeadS.slice {w : World} {s : Value} {n : Nat} {l : Nat → Nat} (h : HeadS w s n l) : ∃ a c, s = .slice a n c := by
  rcases h with ⟨rfl, a, c, rfl⟩ | ⟨b, off, cap, rfl, _⟩ <;> exact ⟨_, _, rfl⟩
end Go.Proofs.Ytoicdfdfajfopaa

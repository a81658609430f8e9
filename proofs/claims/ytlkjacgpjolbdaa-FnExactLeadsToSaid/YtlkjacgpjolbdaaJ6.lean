
/- The model's ThirdPoint answers as the plain function thirdV. Slices of integers: equality of two that hold the same. The contract of slices.Sort, laid at []int64. The program's blockFrom: three numbers in order. The program's isRenumbering. The model's list of the blocks through a point. BlocksAt: the program and the model answer alike. Marking and holding rows of integers. Rows of rows of integers: equality, marks, and that they are still there. -/
import Derived.Test.YtlkjacgpjolbdaaJ5
import Derived.Shelf.SortM.Plain
import Derived.Ground.SlgmProg
import Derived.Test.YtlkjacgpjolbdaaProg
import Derived.Deep.RegionWith
namespace Go.Proofs.Ytlkjacgpjolbdaa
open Go.RowKit Go.Maps
def pointsCode (v : Int) (bs : List Blk) (ps : List Int) : Int := if isSysImpl v bs then (if ps.all (inP v) then 0 else 2) else 1
theorem RS.quiet2 {P : Program} {f : FuncId} {args : Array Value} {w : World} {a n : Nat} {v : Value} (h : Calls P f args (w.drewN (a + n)) (RS v (w.drewN (a + n)))) :
    Calls P f args (w.drewN (a + n)) fun e w'' => e = .returned v ∧ ∃ m, w'' = w.drewN (a + m) :=
  h.mono fun _ _ ⟨he, hm⟩ => ⟨he, n, hm.symm⟩
theorem Ints.below {w w' : World} {b off B : Nat} {zs : List Int} (h : Ints w b off zs) (hb : Below B w w') (hl : b < B) : Ints w' b off zs := fun k hk => (hb.cell (p := ⟨b, off + k, none⟩) hl).trans (h k hk)
set_option maxRecDepth 100000 in
theorem l01Points_any (v : Int) (s : Value) (bs : List Blk) (b off cap : Nat) (ps : List Int) (w : World) (h : SB w s bs) (hps : Ints w b off ps) (hb : b < w.heap.size) (hpl : ps.length ≤ 1100000) :
    Calls Try.prog 124 #[.agg #[.int .i64 v, s], .slice (some ⟨b, off, none⟩) ps.length cap] w (RV (.int .i64 (pointsCode v bs ps)) w) := by
  have hs := h.slice
  have hc := l01Is_any v s bs (w.alloc (.cells #[.int .i64 v, s] 28)) (h.below ((Below.refl _ _).alloc (Nat.le_refl _) _) (Nat.le_refl _))
  have HPS := Lib.hid hps
  clear h hps
  obtain ⟨a0, c0, rfl⟩ := hs
  cases hi : isSysImpl v bs with
  | false =>
    rw [hi] at hc
    have HC := Lib.hid hc
    have hp : pointsCode v bs ps = 1 := by simp [pointsCode, hi]
    rw [hp]
    clear hc hi hp
    go_enter Try.func124, Try.ntmps124
    go_wp2_with (go_at_call 66; refine HC.out.mono ?_; rintro e w1 ⟨rfl, hb1⟩)
    go_ret
    exact RV_of rfl (((Below.refl _ _).alloc (Nat.le_refl _) _).trans (hb1.mono (by simp)))
  | true =>
    rw [hi] at hc
    have HC := Lib.hid hc
    obtain ⟨v3, v15, _⟩ := sys_size hi
    have hp : pointsCode v bs ps = if ps.all (inP v) then 0 else 2 := by simp [pointsCode, hi]
    have HP := Lib.hid hp
    clear hc hi hp
    go_enter Try.func124, Try.ntmps124
    go_wp2_with fail
    refine HC.out.mono ?_
    rintro e w1 ⟨rfl, hb1⟩
    have p0 := cell_new hb1 0 rfl
    have z1 := hb1.size
    simp at z1
    have hbw := ((Below.refl w.heap.size w).alloc (Nat.le_refl _) (.cells #[.int .i64 v, .slice a0 bs.length c0] 28)).trans (hb1.mono (by simp))
    have HI1 := Lib.hid (HPS.out.below hbw hb)
    clear hb1 HPS HC
    go_wp2_with fail
    go_loopw [5] (fun i wr => ∃ k : Nat, k ≤ ps.length ∧ i = .int .i64 k ∧ (∃ n, wr = w1.drewN n) ∧ Hid ((ps.take k).all (inP v) = true)) (fun i _ => ps.length - (intOf i).toNat)
    case atStart => exact ⟨0, Nat.zero_le _, rfl, ⟨0, rfl⟩, Lib.hid (by simp)⟩
    case round =>
      obtain ⟨k, hk, rfl, ⟨n, rfl⟩, HA⟩ := hrel
      by_cases hkl : k < ps.length
      · have hx := HI1.out k hkl
        obtain ⟨x, hxe⟩ : ∃ x, x = ps[k]?.getD 0 := ⟨_, rfl⟩
        rw [← hxe] at hx
        have hnx : (ps.take (k + 1)).all (inP v) = ((ps.take k).all (inP v) && inP v x) := by
          rw [take_next hkl, List.all_append, hxe, List.getElem?_eq_getElem hkl]
          simp only [Option.getD_some, List.all_cons, List.all_nil, Bool.and_true]
        have hall : inP v x = false → ps.all (inP v) = false := fun hf => by
          rw [List.all_eq_false]
          exact ⟨ps[k], List.getElem_mem hkl, by rw [hxe] at hf; simpa [hkl] using hf⟩
        have HNX := Lib.hid hnx
        have HALL := Lib.hid hall
        have g0 : (0 : Int) ≤ (k : Int) := by omega
        have g1 : (k : Int) < (ps.length : Int) := by omega
        have hc2 := fun W => l01In_any x 0 (v - 1) W
        have he : (decide (0 ≤ x) && decide (x ≤ v - 1)) = inP v x := by
          unfold inP
          rw [Bool.eq_iff_iff]
          simp
          omega
        rw [he] at hc2
        clear hnx hall hxe he
        cases hp : inP v x with
        | false =>
          rw [hp] at hc2
          have HC2 := Lib.hid hc2
          have HPX := Lib.hid hp
          clear hc2 hp
          go_wp2
          go_quiet ((go_at_call 67; exact RS.quiet2 (HC2.out _)))
          go_wp2
          go_ret
          exact RV_of (int_eq (by rw [HP.out, HALL.out HPX.out]; rfl)) (below_drewN (below_drewN hbw _) _)
        | true =>
          rw [hp] at hc2
          have HC2 := Lib.hid hc2
          have HPX := Lib.hid hp
          clear hc2 hp
          go_wp2
          go_quiet ((go_at_call 67; exact RS.quiet2 (HC2.out _)))
          go_wp2
          go_roundw
          case rel => exact ⟨k + 1, by omega, by go_num, ⟨_, rfl⟩, Lib.hid (by rw [HNX.out, HA.out, HPX.out]; rfl)⟩
          case measure => simp [intOf]; omega
      · go_wp2
        go_ret
        have e : k = ps.length := by omega
        subst e
        have := HA.out
        rw [List.take_length] at this
        exact RV_of (int_eq (by rw [HP.out, this]; rfl)) (below_drewN hbw _)

theorem ints2 {w : World} {b : Nat} {x y : Int} (h0 : w.cell? ⟨b, 0, none⟩ = some (.int .i64 x)) (h1 : w.cell? ⟨b, 1, none⟩ = some (.int .i64 y)) : Ints w b 0 [x, y] := by
  intro k hk
  match k, hk with
  | 0, _ => simpa using h0
  | 1, _ => simpa using h1
end Go.Proofs.Ytlkjacgpjolbdaa

namespace Go.Proofs.Ytlkjacgpjolbdaa
open Go.RowKit Go.Maps
/-- The value is a slice of just these integers. -/
def IB (w : World) (s : Value) (zs : List Int) : Prop :=
  zs.length ≤ 1100000 ∧ ((∃ a c, s = .slice a 0 c ∧ zs = []) ∨ ∃ b off cap, s = .slice (some ⟨b, off, none⟩) zs.length cap ∧ b < w.heap.size ∧ Ints w b off zs)
theorem IB.below {w w' : World} {s : Value} {zs : List Int} (h : IB w s zs) {B : Nat} (hb : Below B w w') (hB : w.heap.size ≤ B) : IB w' s zs := by
  obtain ⟨h1, h2⟩ := h
  refine ⟨h1, ?_⟩
  rcases h2 with h2 | ⟨b, off, cap, rfl, hl, hr⟩
  · exact .inl h2
  · exact .inr ⟨b, off, cap, rfl, by have := hb.size; omega, hr.below hb (by omega)⟩
theorem OwnI.ib {W : World} {base : Nat} {u : Value} {zs : List Int} (h : OwnI W base u (zs.map (Value.int .i64))) (hl : zs.length ≤ 1100000) : IB W u zs := by
  obtain ⟨⟨_, h | ⟨g, cap, cur, rfl, hb, hcur, hn, hc, hsz, hx⟩⟩, _⟩ := h
  · obtain ⟨rfl, h0⟩ := h
    refine ⟨hl, .inl ⟨_, _, rfl, ?_⟩⟩
    rw [List.length_map] at h0
    exact List.length_eq_zero_iff.1 h0
  · refine ⟨hl, .inr ⟨g, 0, cap, by rw [List.length_map], (Array.getElem?_eq_some_iff.1 hcur).1, fun k hk => ?_⟩⟩
    have e : (zs.map (Value.int .i64))[k]? = some (.int .i64 (zs[k]?.getD 0)) := by simp [hk]
    rw [← hx, List.getElem?_take_of_lt (by rw [List.length_map]; omega)] at e
    rw [Nat.zero_add]
    simp [World.cell?, hcur]
    simpa using e
set_option maxRecDepth 100000 in
theorem eqInt64S_same (s t : Value) (zs : List Int) (w : World) (h : IB w s zs) (k : IB w t zs) : Calls Try.prog 29 #[s, t] w (RV (.bool true) w) := by
  have hlen := h.1
  rcases h.2 with ⟨a0, c0, rfl, rfl⟩ | ⟨b, off, cap, rfl, hb, hB⟩
  · rcases k.2 with ⟨a1, c1, rfl, _⟩ | ⟨b', off', cap', rfl, hb', hB'⟩
    all_goals
      clear hlen h k
      go_enter Try.func29, Try.ntmps29
      go_wp2
      refine wp_loop_rounds 1 ?_
      rw [rounds_succ]
      go_wp2
      go_ret
      exact RV_of rfl (Below.refl _ _)
  · by_cases h0 : zs.length = 0
    · rcases k.2 with ⟨a1, c1, rfl, rfl⟩ | ⟨b', off', cap', rfl, hb', hB'⟩
      all_goals
        try rw [h0]
        clear hlen h k
        go_enter Try.func29, Try.ntmps29
        go_wp2
        refine wp_loop_rounds 1 ?_
        rw [rounds_succ]
        go_wp2
        go_ret
        exact RV_of rfl (Below.refl _ _)
    · rcases k.2 with ⟨a1, c1, rfl, rfl⟩ | ⟨b', off', cap', rfl, hb', hB'⟩
      · exact absurd rfl h0
      · have HB := Lib.hid hB
        have HB' := Lib.hid hB'
        clear hB hB' h k h0
        have hne : (((zs.length : Nat) : Int) != (zs.length : Nat)) = false := by simp
        go_enter Try.func29, Try.ntmps29
        go_wp2
        go_loopw [5] (fun i wr => ∃ k : Nat, k ≤ zs.length ∧ i = .int .i64 k ∧ Below w.heap.size w wr) (fun i _ => zs.length - (intOf i).toNat)
        case atStart => exact ⟨0, Nat.zero_le _, rfl, Below.refl _ _⟩
        case round =>
          obtain ⟨k, hk, rfl, hBw⟩ := hrel
          by_cases hkl : k < zs.length
          · have q1 := (hBw.cell (p := ⟨b, off + k, none⟩) hb).trans (HB.out k hkl)
            have q2 := (hBw.cell (p := ⟨b', off' + k, none⟩) hb').trans (HB'.out k hkl)
            obtain ⟨z, hz⟩ : ∃ z, z = zs[k]?.getD 0 := ⟨_, rfl⟩
            rw [← hz] at q1 q2
            clear hz
            have r1 := cell_regrown q1
            have r2 := cell_regrown q2
            clear q1 q2
            have g0 : (0 : Int) ≤ (k : Int) := by omega
            have g1 : (k : Int) < (zs.length : Int) := by omega
            have hzz : (z != z) = false := by simp
            go_wp2
            refine wp_region_quiet_below (by kernel_rfl) (by kernel_rfl) ?_
            repeat (go_big_quiet_step (fail))
            refine wpQuiet_nil ?_
            intro _ hw'
            obtain ⟨⟨dq, osq⟩, hw''⟩ := hw'
            subst hw''
            go_wp2
            go_roundw
            case rel => exact ⟨k + 1, by omega, by go_num, hBw.trans ((below_regrown _ dq osq).mono hBw.size)⟩
            case measure => simp [intOf]; omega
          · go_wp2
            go_ret
            exact RV_of rfl hBw
end Go.Proofs.Ytlkjacgpjolbdaa

namespace Go.Proofs
open Go.Shelf
def Try.sortI_ren : Go.Shelf.Ren := ⟨fun | 5 => 134 | 8 => 155 | 7 => 154 | 19 => 172 | 20 => 173 | 10 => 163 | 11 => 164 | 12 => 165 | 13 => 166 | 14 => 167 | 15 => 168 | 16 => 169 | 17 => 170 | 18 => 171 | 30 => 177 | 31 => 178 | 32 => 179 | 33 => 180 | 34 => 181 | 35 => 162 | 40 => 190 | n => n, fun | 23 => 35 | 25 => 2 | 3 => 3 | 32 => 144 | 22 => 35 | 0 => 0 | 44 => 159 | 46 => 116 | 4 => 4 | 36 => 152 | 35 => 151 | 41 => 156 | 5 => 5 | 9 => 9 | 53 => 166 | 57 => 170 | 63 => 177 | 64 => 178 | n => n, fun | n => n⟩
theorem Try.sortI : Go.Proofs.SlLaysM.n5 Try.prog Try.sortI_ren := {
  mixed := by kernel_rfl
  f5 := ⟨Try.f134.name, by decide, Try.func134.trans (congrArg some (by kernel_rfl))⟩
  f7 := ⟨Try.f154.name, by decide, Try.func154.trans (congrArg some (by kernel_rfl))⟩
  f8 := Try.func155.trans (congrArg some (by kernel_rfl))
  f10 := ⟨Try.f163.name, by decide, Try.func163.trans (congrArg some (by kernel_rfl))⟩
  f11 := ⟨Try.f164.name, by decide, Try.func164.trans (congrArg some (by kernel_rfl))⟩
  f12 := ⟨Try.f165.name, by decide, Try.func165.trans (congrArg some (by kernel_rfl))⟩
  f13 := ⟨Try.f166.name, by decide, Try.func166.trans (congrArg some (by kernel_rfl))⟩
  f14 := ⟨Try.f167.name, by decide, Try.func167.trans (congrArg some (by kernel_rfl))⟩
  f15 := ⟨Try.f168.name, by decide, Try.func168.trans (congrArg some (by kernel_rfl))⟩
  f16 := ⟨Try.f169.name, by decide, Try.func169.trans (congrArg some (by kernel_rfl))⟩
  f17 := ⟨Try.f170.name, by decide, Try.func170.trans (congrArg some (by kernel_rfl))⟩
  f18 := ⟨Try.f171.name, by decide, Try.func171.trans (congrArg some (by kernel_rfl))⟩
  f19 := Try.func172.trans (congrArg some (by kernel_rfl))
  f20 := Try.func173.trans (congrArg some (by kernel_rfl))
  f30 := ⟨Try.f177.name, by decide, Try.func177.trans (congrArg some (by kernel_rfl))⟩
  f31 := Try.func178.trans (congrArg some (by kernel_rfl))
  f32 := Try.func179.trans (congrArg some (by kernel_rfl))
  f33 := ⟨Try.f180.name, by decide, Try.func180.trans (congrArg some (by kernel_rfl))⟩
  f34 := ⟨Try.f181.name, by decide, Try.func181.trans (congrArg some (by kernel_rfl))⟩
  f35 := ⟨Try.f162.name, by decide, Try.func162.trans (congrArg some (by kernel_rfl))⟩
  f40 := ⟨Try.f190.name, by decide, Try.func190.trans (congrArg some (by kernel_rfl))⟩
  t0 := Try.underlying0
  a0 := Try.isAgg0
  z0 := Try.sizeOf0
  v0 := Try.zeroValue0
  t3 := Try.underlying3
  a3 := Try.isAgg3
  z3 := Try.sizeOf3
  v3 := Try.zeroValue3
  t4 := Try.underlying4
  a4 := Try.isAgg4
  z4 := Try.sizeOf4
  v4 := Try.zeroValue4
  t5 := Try.underlying5
  a5 := Try.isAgg5
  z5 := Try.sizeOf5
  v5 := Try.zeroValue5
  t9 := Try.underlying9
  a9 := Try.isAgg9
  z9 := Try.sizeOf9
  v9 := Try.zeroValue9
  t22 := Try.underlying35
  a22 := Try.isAgg35
  z22 := Try.sizeOf35
  v22 := Try.zeroValue35
  t23 := Try.underlying35
  a23 := Try.isAgg35
  z23 := Try.sizeOf35
  v23 := Try.zeroValue35
  t25 := Try.underlying2
  a25 := Try.isAgg2
  z25 := Try.sizeOf2
  v25 := Try.zeroValue2
  t32 := Try.underlying144
  a32 := Try.isAgg144
  z32 := Try.sizeOf144
  v32 := Try.zeroValue144
  t35 := Try.underlying151
  a35 := Try.isAgg151
  z35 := Try.sizeOf151
  v35 := Try.zeroValue151
  t36 := Try.underlying152
  a36 := Try.isAgg152
  z36 := Try.sizeOf152
  v36 := Try.zeroValue152
  t41 := Try.underlying156
  a41 := Try.isAgg156
  z41 := Try.sizeOf156
  v41 := Try.zeroValue156
  t44 := Try.underlying159
  a44 := Try.isAgg159
  z44 := Try.sizeOf159
  v44 := Try.zeroValue159
  t46 := Try.underlying116
  a46 := Try.isAgg116
  z46 := Try.sizeOf116
  v46 := Try.zeroValue116
  t53 := Try.underlying166
  a53 := Try.isAgg166
  z53 := Try.sizeOf166
  v53 := Try.zeroValue166
  t57 := Try.underlying170
  a57 := Try.isAgg170
  z57 := Try.sizeOf170
  v57 := Try.zeroValue170
  t63 := Try.underlying177
  a63 := Try.isAgg177
  z63 := Try.sizeOf177
  v63 := Try.zeroValue177
  t64 := Try.underlying178
  a64 := Try.isAgg178
  z64 := Try.sizeOf178
  v64 := Try.zeroValue178 }
end Go.Proofs

namespace Go.Proofs.Ytlkjacgpjolbdaa
open Go.RowKit Go.Maps Go.Sort Go.Shelf
theorem heap_put' {α : Type} [Inhabited α] (enc : α → Value) {w : World} {g n : Nat} {os : Array Obj} {cur : Array Value} {e : TypeId} {fr : Nat × Nat} (F : Array α) (hb : w.heap[g]? = some (.cells cur e fr)) :
    (grow (putRow enc (Sort.ahead w n) g 0 F) os).heap[g]? = some (.cells (putCells enc 0 F cur) e fr) := by
  have hg : g < w.heap.size := (Array.getElem?_eq_some_iff.1 hb).1
  rw [heap_grow_old _ _ (by simpa using hg)]
  simp [putRow, mapBlock, Sort.ahead, Array.getElem?_modify, hb, onCells]
theorem grownBy_put' {α : Type} [Inhabited α] (enc : α → Value) {w : World} {g n : Nat} {os : Array Obj} (F : Array α) : w.grownBy (grow (putRow enc (Sort.ahead w n) g 0 F) os) (some g) := by
  refine ⟨rfl, rfl, rfl, by simp, fun k hk hne => ?_⟩
  rw [heap_grow_old _ _ (by simpa using hk)]
  have : g ≠ k := fun e => hne (by rw [e])
  simp [putRow, mapBlock, Sort.ahead, Array.getElem?_modify, this]
theorem sort3_any (b : Nat) (x y z : Int) (w : World) (h : w.heap[b]? = some (.cells #[.int .i64 x, .int .i64 y, .int .i64 z] 70 (0, 0))) :
    Calls Try.prog 134 #[.slice (some ⟨b, 0, none⟩) 3 3] w fun e w' => e = .returned (.tuple #[]) ∧ w.grownBy w' (some b) ∧ w'.heap[b]? = some (.cells #[.int .i64 (blk3 x y z).a, .int .i64 (blk3 x y z).b, .int .i64 (blk3 x y z).c] 70 (0, 0)) := by
  have hlt : b < w.heap.size := (Array.getElem?_eq_some_iff.1 h).1
  have hH : Holds (Value.int .i64) w b 0 [x, y, z].toArray := by
    intro j hj
    simp at hj
    rw [Nat.zero_add]
    match j, hj with
    | 0, _ => exact ⟨by simp [World.cell?, h], by simp [World.frozen?, h]⟩
    | 1, _ => exact ⟨by simp [World.cell?, h], by simp [World.frozen?, h]⟩
    | 2, _ => exact ⟨by simp [World.cell?, h], by simp [World.frozen?, h]⟩
  have hS := AnyM.slices_Sort_int Try.sortI b 0 3 [x, y, z] w hH hlt (by simp)
  rw [sort3] at hS
  refine Calls.mono hS ?_
  rintro e w' ⟨rfl, n, os, rfl⟩
  refine ⟨rfl, grownBy_put' _ _, ?_⟩
  rw [heap_put' _ _ h]
  rfl
set_option maxRecDepth 100000 in
theorem blockFrom_any (b off c : Nat) (x y z : Int) (w : World) (h0 : w.cell? ⟨b, off, none⟩ = some (.int .i64 x)) (h1 : w.cell? ⟨b, off + 1, none⟩ = some (.int .i64 y)) (h2 : w.cell? ⟨b, off + 2, none⟩ = some (.int .i64 z)) :
    Calls Try.prog 138 #[.slice (some ⟨b, off, none⟩) 3 c] w (RV (bv (blk3 x y z)) w) := by
  obtain ⟨wx, hwx⟩ : ∃ wx, wx = (w.alloc (.cells #[.int .i64 0, .int .i64 0, .int .i64 0] 70)).alloc (.cells #[.int .i64 x, .int .i64 y, .int .i64 z] 70) := ⟨_, rfl⟩
  have hzx : wx.heap.size = w.heap.size + 1 + 1 := by rw [hwx]; simp
  have hbx : Below w.heap.size w wx := by rw [hwx]; exact ((Below.refl _ _).alloc (Nat.le_refl _) _).alloc (by simp) _
  have hh : wx.heap[w.heap.size + 1]? = some (.cells #[.int .i64 x, .int .i64 y, .int .i64 z] 70 (0, 0)) := by
    rw [hwx]
    have := World.alloc_heap_new (w.alloc (.cells #[.int .i64 0, .int .i64 0, .int .i64 0] 70)) (.cells #[.int .i64 x, .int .i64 y, .int .i64 z] 70)
    simpa using this
  have d0 : wx.heap[w.heap.size]? = some (.cells #[.int .i64 0, .int .i64 0, .int .i64 0] 70 (0, 0)) := by
    rw [hwx, Below.heap_alloc _ _ _ (by simp)]
    exact World.alloc_heap_new w _
  have HS := Lib.hid (sort3_any (w.heap.size + 1) x y z wx hh)
  have D0 := Lib.hid d0
  have HZX := Lib.hid hzx
  have HBX := Lib.hid hbx
  have HWX := Lib.hid hwx
  clear hh d0 hzx hbx hwx
  obtain ⟨r, hr⟩ : ∃ r, r = blk3 x y z := ⟨_, rfl⟩
  rw [← hr] at HS ⊢
  clear hr
  obtain ⟨ra, rb, rc⟩ := r
  have hat : ∀ W, (Instr.arrayAt 70 (.slice (some ⟨b, off, none⟩) 3 c)).run Try.prog W = .ok (.pointer (some ⟨b, off, none⟩)) W := fun W => by kernel_rfl
  have hblt : b < w.heap.size := by obtain ⟨ob, ho, _⟩ := cells_of_cell h0; exact (Array.getElem?_eq_some_iff.1 ho).1
  go_enter Try.func138, Try.ntmps138
  go_wp2_with fail
  rw [← HWX.out]
  refine HS.out.mono ?_
  rintro e w1 ⟨rfl, hg, hh⟩
  have hz := hg.size
  rw [HZX.out] at hz
  have hd := (hg.block w.heap.size (by rw [HZX.out]; omega) (by simp)).trans D0.out
  have hbw : Below w.heap.size w w1 := HBX.out.grown hg HBX.out.size (fun r e => by cases e; omega)
  have q0 : w1.cell? ⟨w.heap.size + 1, 0, none⟩ = some (.int .i64 ra) := by simp [World.cell?, hh]
  have q1 : w1.cell? ⟨w.heap.size + 1, 1, none⟩ = some (.int .i64 rb) := by simp [World.cell?, hh]
  have q2 : w1.cell? ⟨w.heap.size + 1, 2, none⟩ = some (.int .i64 rc) := by simp [World.cell?, hh]
  have e0 : w1.cell? ⟨w.heap.size, 0, none⟩ = some (.int .i64 0) := by simp [World.cell?, hd]
  have e1 : w1.cell? ⟨w.heap.size, 1, none⟩ = some (.int .i64 0) := by simp [World.cell?, hd]
  have e2 : w1.cell? ⟨w.heap.size, 2, none⟩ = some (.int .i64 0) := by simp [World.cell?, hd]
  have k0 : w1.frozen? ⟨w.heap.size, 0, none⟩ = false := by simp [World.frozen?, hd]
  have k1 : w1.frozen? ⟨w.heap.size, 1, none⟩ = false := by simp [World.frozen?, hd]
  have k2 : w1.frozen? ⟨w.heap.size, 2, none⟩ = false := by simp [World.frozen?, hd]
  clear hh hd hg
  go_wp2
  refine bodyPost_ret (v := bv ⟨ra, rb, rc⟩) (by simp [results, Try.results138, go_sem, bv, *]) rfl ⟨rfl, ?_⟩
  exact ((hbw.setCell (p := ⟨w.heap.size, 0, none⟩) (Nat.le_refl _) _).setCell (p := ⟨w.heap.size, 1, none⟩) (Nat.le_refl _) _).setCell (p := ⟨w.heap.size, 2, none⟩) (Nat.le_refl _) _
end Go.Proofs.Ytlkjacgpjolbdaa

namespace Go.Proofs.Ytlkjacgpjolbdaa
open Go.RowKit Go.Maps
theorem intKeyed : Keyed Try.prog 2 := int_keyed Try.underlying2
theorem int_key {a : Int} (ha : WF a) : ∃ kl, keyOf Try.prog 2 (.int .i64 a) = some kl := ⟨_, keyOf_int_mk Try.underlying2 ha⟩
def iv (a : Int) : Value := .int .i64 a
theorem iv_inj {a b : Int} (h : iv a = iv b) : a = b := by simpa [iv] using h
theorem take_snoc' {l : List Int} {k : Nat} (h : k < l.length) : l.take (k + 1) = l.take k ++ [l[k]?.getD 0] := by
  rw [List.take_succ_eq_append_getElem h]; simp [h]
set_option maxRecDepth 100000 in
theorem isRenumbering_any (v : Int) (s : Value) (p : List Int) (w : World) (h : IB w s p) (hwf : ∀ z ∈ p, WF z) :
    Calls Try.prog 137 #[.int .i64 v, s] w (RV (.bool (isRen v p)) w) := by
  obtain ⟨hlen, h3⟩ := h
  have hmm := @run_makeMap Try.prog
  have HPT := Lib.hid fun a W => isPointI_any v a W
  obtain ⟨a0, c0, hs⟩ : ∃ a c, s = .slice a p.length c := by rcases h3 with ⟨a, c, rfl, rfl⟩ | ⟨b, off, cap, rfl, _⟩ <;> exact ⟨_, _, rfl⟩
  by_cases hv : (p.length : Int) = v
  · subst hv
    have hval : isRen (p.length : Int) p = rnGo (p.length : Int) [] p := by simp [isRen]
    rw [hval]
    have HW := Lib.hid hwf
    rcases h3 with ⟨a, c, rfl, rfl⟩ | ⟨b, off, cap, rfl, hlt, hI⟩
    · clear hs hval hwf
      go_enter Try.func137, Try.ntmps137
      go_wp2
      refine wp_loop_rounds 1 ?_
      rw [rounds_succ]
      go_wp2
      go_ret
      exact RV_of rfl ((Below.refl _ _).alloc (Nat.le_refl _) _)
    · clear hs hval hwf
      have HI := Lib.hid hI
      clear hI
      go_enter Try.func137, Try.ntmps137
      go_wp2
      go_loopw [15] (fun i wr => ∃ k : Nat, k ≤ p.length ∧ i = .int .i64 k ∧ BoolSet wr Try.prog 2 4 w.heap.size k ((p.take k).map iv) ∧ Below w.heap.size w wr ∧ Hid (rnGo (p.length : Int) [] p = rnGo (p.length : Int) (p.take k) (p.drop k))) (fun i _ => p.length - (intOf i).toNat)
      case atStart => exact ⟨0, Nat.zero_le _, rfl, BoolSet.made _ _ _ _, (Below.refl _ _).alloc (Nat.le_refl _) _, Lib.hid (by simp)⟩
      case round =>
        obtain ⟨k, hk, rfl, hS, hB, HE⟩ := hrel
        have hsz := hB.size
        have hltB := hS.lt
        by_cases hkl : k < p.length
        · have c0 := (hB.cell (p := ⟨b, off + k, none⟩) hlt).trans (HI.out k hkl)
          have hmem : (p[k]?.getD 0) ∈ p := by rw [List.getElem?_eq_getElem hkl]; exact List.getElem_mem hkl
          have hts := take_snoc' hkl
          have hdr : p.drop k = (p[k]?.getD 0) :: p.drop (k + 1) := by rw [List.drop_eq_getElem_cons hkl]; simp [hkl]
          obtain ⟨z, hz⟩ : ∃ z, z = p[k]?.getD 0 := ⟨_, rfl⟩
          rw [← hz] at c0 hmem hts hdr
          rw [hdr] at HE
          obtain ⟨k1, hk1⟩ := int_key (HW.out z hmem)
          have HK1 := Lib.hid hk1
          have TS := Lib.hid hts
          have g0 : (0 : Int) ≤ (k : Int) := by omega
          have g1 : (k : Int) < (p.length : Int) := by omega
          clear hz hts hdr hk1 hmem
          have hput : ∀ w', BoolSet w' Try.prog 2 4 w.heap.size (k + 1) ((p.take k).map iv ++ [iv z]) → BoolSet w' Try.prog 2 4 w.heap.size (k + 1) ((p.take (k + 1)).map iv) := fun w' h => by rw [TS.out, List.map_append]; exact h
          have HPUT := Lib.hid hput
          have hmm : ∀ β : Bool, Hid (β = true ↔ iv z ∈ (p.take k).map iv) → (β = true ↔ z ∈ p.take k) := fun β h => h.out.trans ⟨fun h => by obtain ⟨q, hq, e⟩ := List.mem_map.1 h; rw [← iv_inj e]; exact hq, fun h => List.mem_map.2 ⟨z, h, rfl⟩⟩
          have HM := Lib.hid hmm
          clear hput hmm
          cases hin : inP (p.length : Int) z with
          | false =>
            have HIN := Lib.hid hin
            have hpt := HPT.out z
            rw [hin] at hpt
            have HP1 := Lib.hid hpt
            clear hin hpt
            go_wp2_with (go_at_call 111; refine (HP1.out _).mono ?_; rintro e w' ⟨rfl, rfl⟩)
            go_ret
            exact RV_of (bool_eq (by rw [HE.out, rnGo_bad HIN.out])) hB
          | true =>
            have HIN := Lib.hid hin
            have hpt := HPT.out z
            rw [hin] at hpt
            have HP1 := Lib.hid hpt
            clear hin hpt
            obtain ⟨β1, hrun, hβ1⟩ : ∃ β : Bool, (Instr.lookup 145 (.map (some w.heap.size)) (.int .i64 z) false).run Try.prog wr = .ok (.bool β) wr ∧ (β = true ↔ iv z ∈ (p.take k).map iv) := hS.look intKeyed Try.underlying145 Try.underlying4 (zeroBool _) HK1.out
            have hb1 := HM.out β1 (Lib.hid hβ1)
            by_cases hsn : z ∈ p.take k
            · have HSN := Lib.hid hsn
              obtain rfl : β1 = true := hb1.2 hsn
              clear hsn hb1 hβ1
              go_wp2_with (go_at_call 111; refine (HP1.out _).mono ?_; rintro e w' ⟨rfl, rfl⟩)
              go_ret
              exact RV_of (bool_eq (by rw [HE.out, rnGo_dup HSN.out])) hB
            · have HSN := Lib.hid hsn
              obtain rfl : β1 = false := Bool.eq_false_iff.2 (fun h => hsn (hb1.1 h))
              clear hsn hb1 hβ1
              go_wp2_with (first | (go_at_call 111; refine (HP1.out _).mono ?_; rintro e w' ⟨rfl, rfl⟩) | (at_mapUpdate; refine wpList_put_set _ rfl _ _ _ 145 rfl 2 4 intKeyed Try.underlying145 Try.underlying4 w.heap.size k ((p.take k).map iv) rfl hS (by unfold maxLen; omega) (iv z) k1 rfl rfl HK1.out ?_; intro w3 hS3 hg3))
              have hB3 := hB.grown hg3 hsz (fun j e => by cases e; exact Nat.le_refl _)
              go_roundw
              case rel => exact ⟨k + 1, by omega, by go_num, HPUT.out _ hS3, hB3, Lib.hid (by rw [HE.out, rnGo_next HIN.out HSN.out, TS.out])⟩
              case measure => simp [intOf]; omega
        · go_wp2
          go_ret
          exact RV_of (bool_eq (by rw [HE.out, List.drop_eq_nil_of_le (by omega), rnGo])) hB
  · have hval : isRen v p = false := by simp [isRen, hv]
    rw [hval]
    have hd : ((p.length : Int) != v) = true := by simpa using hv
    subst hs
    clear hval h3 hv hwf
    go_enter Try.func137, Try.ntmps137
    go_wp2
    go_ret
    exact RV_of rfl (Below.refl _ _)
end Go.Proofs.Ytlkjacgpjolbdaa

namespace Go.Proofs.Ytlkjacgpjolbdaa
open Go.RowKit Go.Maps
/-- The value owns a row of just these integers, beyond base. -/
def OwnJ (W : World) (base : Nat) (u : Value) (zs : List Int) : Prop := W.ownsRow base 2 1 u zs.length (zs.map (Value.int .i64))
theorem OwnJ.kept {w w' : World} {base : Nat} {v : Value} {bs : List Int} {row : Option Nat} (h : OwnJ w base v bs) (hg : w.grownBy w' row) (hr : ∀ r, row = some r → r < base) : OwnJ w' base v bs := by
  obtain ⟨hl, h | ⟨g, cap, cur, rfl, hb, hcur, hrest⟩⟩ := h
  · exact ⟨hl, .inl h⟩
  · exact ⟨hl, .inr ⟨g, cap, cur, rfl, hb, (hg.block g (Array.getElem?_eq_some_iff.1 hcur).1 (fun e => by have := hr g e.symm; omega)).trans hcur, hrest⟩⟩
theorem OwnJ.below {w w' : World} {base : Nat} {v : Value} {bs : List Int} (h : OwnJ w base v bs) {B : Nat} (hb : Below B w w') (hB : w.heap.size ≤ B) : OwnJ w' base v bs :=
  h.kept (only_of_below (hb.mono hB) none) (by simp)
theorem OwnJ.row {w : World} {base : Nat} {v : Value} {bs : List Int} (h : OwnJ w base v bs) : ∀ r, v.ownBlock = some r → base ≤ r := fun r hr => by
  rcases h.2 with ⟨rfl, _⟩ | ⟨g, cap, cur, rfl, hb, _⟩
  · simp [Value.ownBlock] at hr
  · obtain rfl : g = r := by simpa [Value.ownBlock] using hr
    exact hb
theorem OwnJ.ib {W : World} {base : Nat} {u : Value} {zs : List Int} (h : OwnJ W base u zs) (hl : zs.length ≤ 1100000) : IB W u zs := by
  obtain ⟨_, h | ⟨g, cap, cur, rfl, hb, hcur, hn, hc, hsz, hx⟩⟩ := h
  · obtain ⟨rfl, h0⟩ := h
    exact ⟨hl, .inl ⟨_, _, rfl, List.length_eq_zero_iff.1 h0⟩⟩
  · refine ⟨hl, .inr ⟨g, 0, cap, rfl, (Array.getElem?_eq_some_iff.1 hcur).1, fun k hk => ?_⟩⟩
    have e : (zs.map (Value.int .i64))[k]? = some (.int .i64 (zs[k]?.getD 0)) := by simp [hk]
    rw [← hx, List.getElem?_take_of_lt (by omega)] at e
    rw [Nat.zero_add]
    simp [World.cell?, hcur]
    simpa using e
theorem wpList_append_int {w : World} {ops : Array Oper} {rest : List Oper} {o : Oper} {a : Act} {Q : Exit → Act → World → Prop} (hgd : o.guard = none) (s x : Operand)
    (ho : o.op = .call { callee := .builtin .append, args := #[s, x], argTypes := #[35, 35] })
    (base : Nat) (v : Value) (zs : List Int) (hs : a.eval s = v) (hown : OwnJ w base v zs) (b0 c : Nat) (y : Int) (hx : a.eval x = .slice (some ⟨b0, 0, none⟩) 1 c)
    (c1 : w.cell? ⟨b0, 0, none⟩ = some (.int .i64 y)) (hl : zs.length ≤ 1100000) (hbase : base ≤ w.heap.size)
    (h : ∀ (g cap : Nat) (w' : World), OwnJ w' base (.slice (some ⟨g, 0, none⟩) (zs.length + 1) cap) (zs ++ [y]) → w.grownBy w' v.ownBlock → wpList Try.prog ops Q rest (a.put o.dst (.slice (some ⟨g, 0, none⟩) (zs.length + 1) cap)) w') : wpList Try.prog ops Q (o :: rest) a w := by
  obtain ⟨i0, hi, hz0, hz1, hz2⟩ := info_parts infoInt64
  refine wpList_append_own w hgd s x 35 ho base 2 i0 _ 1 8 Try.underlying35 hi hz0 hz1 hz2 rfl (by decide) v zs.length (zs.map (Value.int .i64)) hs hown ⟨b0, 0, none⟩ 1 c [.int .i64 y] hx rfl ?_ ?_ (by unfold maxLen; omega) (by omega) hbase ?_
  · intro j u hj
    rw [addr_at, Nat.zero_add]
    match j, hj with
    | 0, hj => simp at hj; rw [← hj]; exact c1
    | j + 1, hj => simp at hj
  · intro u hu
    simp at hu
    rw [hu]
    rfl
  · intro v' w' hown' hg _
    obtain ⟨g, cap, rfl⟩ := row_some hown'
    refine h g cap w' ?_ hg
    unfold OwnJ
    rw [List.length_append, List.length_singleton, List.map_append, List.map_singleton]
    exact hown'
theorem OwnJ.new0 (W : World) {base : Nat} (hb : base ≤ W.heap.size) : OwnJ (W.alloc (.cells #[] 2)) base (.slice (some ⟨W.heap.size, 0, none⟩) 0 0) [] :=
  ⟨rfl, .inr ⟨W.heap.size, 0, #[], rfl, hb, World.alloc_heap_new W _, Nat.le_refl _, Nat.zero_le _, rfl, rfl⟩⟩
/-- The indices of the blocks through p among the first k. -/
def idxI (p : Int) (bs : List Blk) (k : Nat) : List Int := (upTo p bs k).map fun q => (q.1 : Int)
theorem idxI_succ (p : Int) (bs : List Blk) (k : Nat) : idxI p bs (k + 1) = idxI p bs k ++ if hasB (bs[k]?.getD default) p then [(k : Int)] else [] := by
  unfold idxI
  rw [upTo_succ, List.map_append]
  congr 1
  split <;> rfl
theorem idxI_len (p : Int) (bs : List Blk) (k : Nat) : (idxI p bs k).length ≤ k := by
  unfold idxI
  rw [List.length_map]
  exact upTo_len p bs k
end Go.Proofs.Ytlkjacgpjolbdaa

namespace Go.Proofs.Ytlkjacgpjolbdaa
open Go.RowKit Go.Maps
/-- The indices of the blocks through p, and the code. -/
def atF (v : Int) (bs : List Blk) (p : Int) : List Int × Int := if isSysImpl v bs then (if inP v p then (idxI p bs bs.length, 0) else ([], 2)) else ([], 1)
def RJ (r : List Int × Int) (w : World) (e : Ending) (w' : World) : Prop := ∃ u, e = .returned (.tuple #[u, .int .i64 r.2]) ∧ OwnJ w' w.heap.size u r.1 ∧ Below w.heap.size w w'
theorem OwnJ.nil (w : World) (base : Nat) : OwnJ w base (.slice none 0 0) [] := ⟨rfl, .inl ⟨rfl, rfl⟩⟩
theorem idxs_eq (p : Int) (bs : List Blk) : idxs (upTo p bs bs.length) = (idxI p bs bs.length).map (Value.int .i64) := by
  unfold idxs idxI
  rw [List.map_map]
  rfl
theorem ints1 {w : World} {b : Nat} {x : Int} (h0 : w.cell? ⟨b, 0, none⟩ = some (.int .i64 x)) : Ints w b 0 [x] := by
  intro k hk
  match k, hk with
  | 0, _ => simpa using h0
end Go.Proofs.Ytlkjacgpjolbdaa

namespace Go.Proofs.Ytlkjacgpjolbdaa
open Go.RowKit Go.Maps
/-- The row at the head of block g holds just these integers and may be written. -/
structure OwnAtI (w : World) (g : Nat) (zs : List Int) : Prop where
  lt : g < w.heap.size
  at_ : Ints w g 0 zs
  free : ∀ o, w.frozen? ⟨g, o, none⟩ = false
theorem OwnAtI.kept {w w' : World} {g : Nat} {zs : List Int} {row : Option Nat} (h : OwnAtI w g zs) (hg : w.grownBy w' row) (hne : some g ≠ row) : OwnAtI w' g zs := by
  have hb := hg.block g h.lt hne
  exact ⟨Nat.lt_of_lt_of_le h.lt hg.size, fun k hk => (World.cell?_of_block (w := w) (a := ⟨g, _, none⟩) hb).trans (h.at_ k hk), fun o => (World.frozen?_of_block (w := w) (a := ⟨g, o, none⟩) hb).trans (h.free o)⟩
theorem Ints.set {w : World} {g : Nat} {l : List Int} (h : Ints w g 0 l) {i : Nat} (hi : i < l.length) (x : Int) : Ints (w.setCell ⟨g, i, none⟩ (.int .i64 x)) g 0 (l.set i x) := by
  intro k hk
  rw [List.length_set] at hk
  have hk' := h k hk
  have hi' := h i hi
  rw [Nat.zero_add] at hk' hi' ⊢
  by_cases e : k = i
  · subst e
    rw [World.cell?_setCell_same' _ _ _ (by rw [hi']; rfl)]
    simp [hk]
  · rw [World.cell?_setCell_other _ _ _ _ (by simp <;> omega), hk', List.getElem?_set_ne (Ne.symm e)]
def markI (k : Int) (n : Nat) : List Int := (List.range n).map fun (t : Nat) => k + (t : Int)
theorem markI_length (k : Int) (n : Nat) : (markI k n).length = n := by simp [markI]
theorem markI_next {k : Int} {i : Nat} {zs : List Int} (h : i < zs.length) : (markI k i ++ zs.drop i).set i (k + i) = markI k (i + 1) ++ zs.drop (i + 1) := by
  rw [List.drop_eq_getElem_cons h, List.set_append_right _ _ (by rw [markI_length]; omega), markI_length, Nat.sub_self, List.set_cons_zero]
  simp [markI, List.range_succ]
theorem markI_at {k : Int} {n j : Nat} (h : j < n) : (markI k n)[j]?.getD 0 = k + j := by
  simp [markI, h]
set_option maxRecDepth 100000 in
theorem markInt64S_nil (a : Option Addr) (c : Nat) (k : Int) (w : World) : Calls Try.prog 30 #[.slice a 0 c, .int .i64 k] w (RS (.int .i64 k) w) := by
  go_enter Try.func30, Try.ntmps30
  go_wp2
  refine wp_loop_rounds 1 ?_
  rw [rounds_succ]
  go_wp2
  go_ret
  exact RS_of rfl
set_option maxRecDepth 100000 in
theorem heldInt64S_nil (a : Option Addr) (c : Nat) (k : Int) (w : World) : Calls Try.prog 37 #[.slice a 0 c, .int .i64 k] w (RS (.int .i64 k) w) := by
  go_enter Try.func37, Try.ntmps37
  go_wp2
  refine wp_loop_rounds 1 ?_
  rw [rounds_succ]
  go_wp2
  go_ret
  exact RS_of rfl
set_option maxRecDepth 100000 in
theorem markInt64S_any (g cap : Nat) (zs : List Int) (k : Int) (w : World) (h : OwnAtI w g zs) (hl : zs.length ≤ 1100000) (h0 : 0 ≤ k) (h1 : k ≤ 9000000) :
    Calls Try.prog 30 #[.slice (some ⟨g, 0, none⟩) zs.length cap, .int .i64 k] w (fun e w' => e = .returned (.int .i64 (k + zs.length)) ∧ w.grownBy w' (some g) ∧ OwnAtI w' g (markI k zs.length)) := by
  have H := Lib.hid h
  clear h
  go_enter Try.func30, Try.ntmps30
  go_wp2
  go_loopw [1, 5] (fun t i wr => ∃ j : Nat, j ≤ zs.length ∧ i = .int .i64 j ∧ t = .int .i64 (k + j) ∧ w.grownBy wr (some g) ∧ OwnAtI wr g (markI k j ++ zs.drop j)) (fun _ i _ => zs.length - (intOf i).toNat)
  case atStart => exact ⟨0, Nat.zero_le _, rfl, by simp, only_refl _ _, by simpa [markI] using H.out⟩
  case round =>
    obtain ⟨j, hj, rfl, rfl, hg, ho⟩ := hrel
    by_cases hjl : j < zs.length
    · have hlj : j < (markI k j ++ zs.drop j).length := by simp [markI_length]; omega
      have c1 := ho.at_ j hlj
      rw [Nat.zero_add] at c1
      have f1 := ho.free
      have hs := Ints.set ho.at_ hlj (k + j)
      rw [markI_next hjl] at hs
      have HS := Lib.hid hs
      have hlt := ho.lt
      clear hs ho
      have g0 : (0 : Int) ≤ (j : Int) := by omega
      have g1 : (j : Int) < (zs.length : Int) := by omega
      obtain ⟨m, hm⟩ : ∃ m, m = k + (j : Int) := ⟨_, rfl⟩
      rw [← hm] at HS ⊢
      have m0 : 0 ≤ m := by omega
      have m1 : m ≤ 90000000 := by omega
      have HM := Lib.hid hm
      clear hm
      go_wp2
      go_roundw
      case rel => exact ⟨j + 1, by omega, by go_num, int_eq (by rw [HM.out]; omega), only_setCell hg rfl _, ⟨by simpa [World.setCell] using hlt, HS.out, fun o => by rw [World.frozen?_setCell]; exact f1 o⟩⟩
      case measure => simp [intOf]; omega
    · go_wp2
      go_ret
      have e : j = zs.length := by omega
      subst e
      rw [List.drop_length, List.append_nil] at ho
      exact ⟨rfl, hg, ho⟩
set_option maxRecDepth 100000 in
theorem heldInt64S_any (g cap n : Nat) (k : Int) (w : World) (h : Ints w g 0 (markI k n)) (hl : n ≤ 1100000) (h0 : 0 ≤ k) (h1 : k ≤ 9000000) :
    Calls Try.prog 37 #[.slice (some ⟨g, 0, none⟩) n cap, .int .i64 k] w (RS (.int .i64 (k + n)) w) := by
  have H := Lib.hid h
  clear h
  go_enter Try.func37, Try.ntmps37
  go_wp2
  go_loop [1, 5] (fun t i => ∃ j : Nat, j ≤ n ∧ i = .int .i64 j ∧ t = .int .i64 (k + j)) (fun _ i => n - (intOf i).toNat)
  case atStart => exact ⟨0, Nat.zero_le _, rfl, by simp⟩
  case round =>
    obtain ⟨j, hj, rfl, rfl⟩ := hrel
    by_cases hjl : j < n
    · have hc := H.out j (by rw [markI_length]; exact hjl)
      rw [markI_at hjl, Nat.zero_add] at hc
      obtain ⟨m, hm⟩ : ∃ m, m = k + (j : Int) := ⟨_, rfl⟩
      rw [← hm] at hc ⊢
      have m0 : 0 ≤ m := by omega
      have m1 : m ≤ 90000000 := by omega
      have HM := Lib.hid hm
      clear hm
      have g0 : (0 : Int) ≤ (j : Int) := by omega
      have g1 : (j : Int) < (n : Int) := by omega
      have n1 : (m != m) = false := by simp
      go_wp2
      go_round
      case rel => exact ⟨j + 1, by omega, by go_num, int_eq (by rw [HM.out]; omega)⟩
      case measure => simp [intOf]; omega
    · go_wp2
      go_ret
      have e : j = n := by omega
      subst e
      exact RS_of rfl
/-- A result that is a list of integers: empty anywhere, or memory of its own between lo and hi. -/
def ResI (w : World) (lo hi : Nat) (s : Value) (zs : List Int) : Prop := (zs = [] ∧ ∃ a c, s = .slice a 0 c) ∨ ∃ g cap, s = .slice (some ⟨g, 0, none⟩) zs.length cap ∧ lo ≤ g ∧ g < hi ∧ OwnAtI w g zs
theorem OwnJ.res {w : World} {base : Nat} {v : Value} {zs : List Int} (h : OwnJ w base v zs) (hl : zs.length ≤ 1100000) : ResI w base w.heap.size v zs := by
  have hib := h.ib hl
  obtain ⟨hl, h | ⟨g, cap, cur, rfl, hb, hcur, hn, hc, hsz, hx⟩⟩ := h
  · obtain ⟨rfl, h0⟩ := h
    exact .inl ⟨List.length_eq_zero_iff.1 h0, _, _, rfl⟩
  · have hg : g < w.heap.size := (Array.getElem?_eq_some_iff.1 hcur).1
    rcases hib.2 with ⟨a, c, e1, rfl⟩ | ⟨b, off, cap', e1, _, hI⟩
    · exact .inl ⟨rfl, _, _, rfl⟩
    · simp at e1
      obtain ⟨⟨rfl, rfl⟩, _⟩ := e1
      exact .inr ⟨g, cap, rfl, hb, hg, hg, hI, fun o => by simp [World.frozen?, hcur]⟩
theorem ResI.ib {w : World} {lo hi : Nat} {s : Value} {zs : List Int} (h : ResI w lo hi s zs) (hl : zs.length ≤ 1100000) : IB w s zs := by
  rcases h with ⟨rfl, a, c, rfl⟩ | ⟨g, cap, rfl, _, _, ho⟩
  · exact ⟨hl, .inl ⟨a, c, rfl, rfl⟩⟩
  · exact ⟨hl, .inr ⟨g, 0, cap, rfl, ho.lt, ho.at_⟩⟩
theorem ResI.kept {w w' : World} {lo hi : Nat} {s : Value} {zs : List Int} {row : Option Nat} (h : ResI w lo hi s zs) (hg : w.grownBy w' row) (hr : ∀ r, row = some r → r < lo ∨ hi ≤ r) : ResI w' lo hi s zs := by
  rcases h with h | ⟨g, cap, rfl, h1, h2, ho⟩
  · exact .inl h
  · exact .inr ⟨g, cap, rfl, h1, h2, ho.kept hg (fun e => by have := hr g e.symm; omega)⟩
theorem ResI.below {w w' : World} {lo hi : Nat} {s : Value} {zs : List Int} (h : ResI w lo hi s zs) {B : Nat} (hb : Below B w w') (hB : w.heap.size ≤ B) : ResI w' lo hi s zs :=
  h.kept (only_of_below (hb.mono hB) none) (by simp)
theorem markJ (lo hi : Nat) (s : Value) (zs : List Int) (k : Int) (w : World) (h : ResI w lo hi s zs) (hl : zs.length ≤ 1100000) (h0 : 0 ≤ k) (h1 : k ≤ 9000000) :
    Calls Try.prog 30 #[s, .int .i64 k] w (fun e w' => e = .returned (.int .i64 (k + zs.length)) ∧ (∃ row, w.grownBy w' row ∧ ∀ r, row = some r → lo ≤ r ∧ r < hi) ∧ ResI w' lo hi s (markI k zs.length)) := by
  rcases h with ⟨rfl, a, c, rfl⟩ | ⟨g, cap, rfl, h3, h4, ho⟩
  · refine (markInt64S_nil a c k w).mono ?_
    rintro e w' ⟨rfl, rfl⟩
    exact ⟨by simp, ⟨none, only_refl _ _, by simp⟩, .inl ⟨rfl, a, c, rfl⟩⟩
  · refine (markInt64S_any g cap zs k w ho hl h0 h1).mono ?_
    rintro e w' ⟨rfl, hg, ho'⟩
    exact ⟨rfl, ⟨some g, hg, fun r hr => by cases hr; exact ⟨h3, h4⟩⟩, .inr ⟨g, cap, by rw [markI_length], h3, h4, ho'⟩⟩
theorem heldJ (lo hi : Nat) (s : Value) (n : Nat) (k : Int) (w : World) (h : ResI w lo hi s (markI k n)) (hl : n ≤ 1100000) (h0 : 0 ≤ k) (h1 : k ≤ 9000000) :
    Calls Try.prog 37 #[s, .int .i64 k] w (RS (.int .i64 (k + n)) w) := by
  rcases h with ⟨hn, a, c, rfl⟩ | ⟨g, cap, rfl, h3, h4, ho⟩
  · have : n = 0 := by have := congrArg List.length hn; simpa [markI_length] using this
    subst this
    simpa using heldInt64S_nil a c k w
  · rw [markI_length]
    exact heldInt64S_any g cap n k w ho.at_ hl h0 h1
end Go.Proofs.Ytlkjacgpjolbdaa

namespace Go.Proofs.Ytlkjacgpjolbdaa
open Go.RowKit Go.Maps
/-- The value is a slice of just these n rows. -/
def SSB (w : World) (s : Value) (n : Nat) (F : Nat → List Int) : Prop :=
  n ≤ 1100000 ∧ ((n = 0 ∧ ∃ a c, s = .slice a 0 c) ∨ ∃ b off cap, s = .slice (some ⟨b, off, none⟩) n cap ∧ b < w.heap.size ∧ ∀ k, k < n → ∃ a c, w.cell? ⟨b, off + k, none⟩ = some (.slice a (F k).length c) ∧ IB w (.slice a (F k).length c) (F k))
theorem SSB.below {w w' : World} {s : Value} {n : Nat} {F : Nat → List Int} (h : SSB w s n F) {B : Nat} (hb : Below B w w') (hB : w.heap.size ≤ B) : SSB w' s n F := by
  obtain ⟨h1, h2⟩ := h
  refine ⟨h1, ?_⟩
  rcases h2 with h2 | ⟨b, off, cap, rfl, hl, hr⟩
  · exact .inl h2
  · refine .inr ⟨b, off, cap, rfl, by have := hb.size; omega, fun k hk => ?_⟩
    obtain ⟨a, c, hc, hi⟩ := hr k hk
    exact ⟨a, c, (hb.cell (by simp; omega)).trans hc, hi.below hb hB⟩
theorem SSB.slice {w : World} {s : Value} {n : Nat} {F : Nat → List Int} (h : SSB w s n F) : ∃ a c, s = .slice a n c := by
  rcases h.2 with ⟨rfl, a, c, rfl⟩ | ⟨b, off, cap, rfl, _⟩ <;> exact ⟨_, _, rfl⟩
set_option maxRecDepth 100000 in
theorem eqInt64SS_same (s t : Value) (n : Nat) (F : Nat → List Int) (w : World) (h : SSB w s n F) (k : SSB w t n F) : Calls Try.prog 42 #[s, t] w (RV (.bool true) w) := by
  have hn := h.1
  by_cases h0 : n = 0
  · obtain ⟨a, c, rfl⟩ := h.slice
    obtain ⟨a', c', rfl⟩ := k.slice
    subst h0
    clear h k hn
    go_enter Try.func42, Try.ntmps42
    go_wp2
    refine wp_loop_rounds 1 ?_
    rw [rounds_succ]
    go_wp2
    go_ret
    exact RV_of rfl (Below.refl _ _)
  · rcases h.2 with ⟨e, _⟩ | ⟨b, off, cap, rfl, hb, hB⟩
    · exact absurd e h0
    · rcases k.2 with ⟨e, _⟩ | ⟨b', off', cap', rfl, hb', hB'⟩
      · exact absurd e h0
      · have HB := Lib.hid hB
        have HB' := Lib.hid hB'
        clear hB hB' h k h0
        have hne : (((n : Nat) : Int) != (n : Nat)) = false := by simp
        go_enter Try.func42, Try.ntmps42
        go_wp2
        go_loopw [5] (fun i wr => ∃ k : Nat, k ≤ n ∧ i = .int .i64 k ∧ Below w.heap.size w wr) (fun i _ => n - (intOf i).toNat)
        case atStart => exact ⟨0, Nat.zero_le _, rfl, Below.refl _ _⟩
        case round =>
          obtain ⟨k, hk, rfl, hBw⟩ := hrel
          by_cases hkl : k < n
          · obtain ⟨a1, c1, q1, i1⟩ := HB.out k hkl
            obtain ⟨a2, c2, q2, i2⟩ := HB'.out k hkl
            have q1 := (hBw.cell (p := ⟨b, off + k, none⟩) hb).trans q1
            have q2 := (hBw.cell (p := ⟨b', off' + k, none⟩) hb').trans q2
            have I1 := Lib.hid (i1.below hBw (Nat.le_refl _))
            have I2 := Lib.hid (i2.below hBw (Nat.le_refl _))
            clear i1 i2
            have g0 : (0 : Int) ≤ (k : Int) := by omega
            have g1 : (k : Int) < (n : Int) := by omega
            go_wp2_with fail
            go_region_with (go_at_call 29; refine (eqInt64S_same _ _ (F k) _ (I1.out.below ((Below.refl _ _).drew) (Nat.le_refl _)) (I2.out.below ((Below.refl _ _).drew) (Nat.le_refl _))).mono ?_; rintro e w1 ⟨rfl, hb1⟩)
            all_goals
              go_wp2_with fail
              go_roundw
              case rel => exact ⟨k + 1, by omega, by go_num, (hBw.drew).trans (hb1.mono (by have := hBw.size; simp; omega))⟩
              case measure => simp [intOf]; omega
          · go_wp2
            go_ret
            exact RV_of rfl hBw
/-- Rows of its own: the head at block G, the k-th row at block gs k. -/
structure SSR (w : World) (lo G : Nat) (gs caps : Nat → Nat) (n : Nat) (F : Nat → List Int) : Prop where
  cell : ∀ k, k < n → w.cell? ⟨G, k, none⟩ = some (.slice (some ⟨gs k, 0, none⟩) (F k).length (caps k))
  row : ∀ k, k < n → OwnAtI w (gs k) (F k)
  ne : ∀ k, k < n → gs k ≠ G
  inc : ∀ j k, j < k → k < n → gs j ≠ gs k
  low : ∀ k, k < n → lo ≤ gs k
  lt : G < w.heap.size
theorem SSR.kept {w w' : World} {lo G : Nat} {gs caps : Nat → Nat} {n : Nat} {F : Nat → List Int} (h : SSR w lo G gs caps n F) {row : Option Nat} (hg : w.grownBy w' row) (hG : some G ≠ row) (hr : ∀ k, k < n → some (gs k) ≠ row) : SSR w' lo G gs caps n F :=
  ⟨fun k hk => hg.cell (h.cell k hk) (by simpa using hG), fun k hk => (h.row k hk).kept hg (hr k hk), h.ne, h.inc, h.low, Nat.lt_of_lt_of_le h.lt hg.size⟩
theorem SSR.below {w w' : World} {lo G : Nat} {gs caps : Nat → Nat} {n : Nat} {F : Nat → List Int} (h : SSR w lo G gs caps n F) {B : Nat} (hb : Below B w w') (hB : w.heap.size ≤ B) : SSR w' lo G gs caps n F :=
  h.kept (only_of_below (hb.mono hB) none) (by simp) (by simp)
theorem SSR.sb {w : World} {lo G cap : Nat} {gs caps : Nat → Nat} {n : Nat} {F : Nat → List Int} (h : SSR w lo G gs caps n F) (hn : n ≤ 1100000) (hF : ∀ k, k < n → (F k).length ≤ 1100000) : SSB w (.slice (some ⟨G, 0, none⟩) n cap) n F :=
  ⟨hn, .inr ⟨G, 0, cap, rfl, h.lt, fun k hk => ⟨_, _, by rw [Nat.zero_add]; exact h.cell k hk, ⟨hF k hk, .inr ⟨gs k, 0, caps k, rfl, (h.row k hk).lt, (h.row k hk).at_⟩⟩⟩⟩⟩
/-- How many integers the first k rows hold. -/
def tot (F : Nat → List Int) : Nat → Nat
  | 0 => 0
  | k + 1 => tot F k + (F k).length
theorem tot_le (F : Nat → List Int) {j n : Nat} (h : j ≤ n) : tot F j ≤ tot F n := by
  induction h with
  | refl => exact Nat.le_refl _
  | step _ ih => exact Nat.le_trans ih (by simp [tot])
/-- The rows after marking. -/
def markSS (k0 : Int) (F : Nat → List Int) (j : Nat) : List Int := markI (k0 + tot F j) (F j).length
theorem SSR.mark1 {w w' : World} {lo G : Nat} {gs caps : Nat → Nat} {n : Nat} {F : Nat → List Int} (h : SSR w lo G gs caps n F) {j : Nat} (hj : j < n) (L : List Int) (hL : L.length = (F j).length) (hg : w.grownBy w' (some (gs j))) (ho : OwnAtI w' (gs j) L) :
    SSR w' lo G gs caps n (fun k => if k = j then L else F k) := by
  refine ⟨fun k hk => ?_, fun k hk => ?_, h.ne, h.inc, h.low, Nat.lt_of_lt_of_le h.lt hg.size⟩
  · have hc := hg.cell (h.cell k hk) (by simpa using Ne.symm (h.ne j hj))
    split
    · subst k
      rw [hL]; exact hc
    · exact hc
  · split
    · subst k; exact ho
    · refine (h.row k hk).kept hg (fun e => ?_)
      have e : gs k = gs j := by simpa using e
      rcases Nat.lt_trichotomy k j with hlt | rfl | hlt
      · have := h.inc k j hlt hj; omega
      · contradiction
      · have := h.inc j k hlt hk; omega
def partSS (k0 : Int) (F : Nat → List Int) (j : Nat) : Nat → List Int := fun k => if k < j then markSS k0 F k else F k
theorem partSS_len (k0 : Int) (F : Nat → List Int) (j k : Nat) : (partSS k0 F j k).length = (F k).length := by
  unfold partSS markSS
  split
  · rw [markI_length]
  · rfl
theorem partSS_succ (k0 : Int) (F : Nat → List Int) (j : Nat) : (fun k => if k = j then markSS k0 F j else partSS k0 F j k) = partSS k0 F (j + 1) := by
  funext k
  unfold partSS
  by_cases h : k = j
  · subst h; simp
  · rw [if_neg h]
    by_cases h2 : k < j
    · rw [if_pos h2, if_pos (by omega)]
    · rw [if_neg h2, if_neg (by omega)]
theorem SSR.congr {w : World} {lo G : Nat} {gs caps : Nat → Nat} {n : Nat} {F F' : Nat → List Int} (h : SSR w lo G gs caps n F) (e : ∀ k, k < n → F k = F' k) : SSR w lo G gs caps n F' :=
  ⟨fun k hk => by rw [← e k hk]; exact h.cell k hk, fun k hk => by rw [← e k hk]; exact h.row k hk, h.ne, h.inc, h.low, h.lt⟩
set_option maxRecDepth 100000 in
theorem markInt64SS_any (lo G cap : Nat) (gs caps : Nat → Nat) (n : Nat) (F : Nat → List Int) (k0 : Int) (w : World) (h : SSR w lo G gs caps n F) (hl : n ≤ 1100000) (hlo : lo ≤ w.heap.size) (hT : tot F n ≤ 1100000) (h0 : 0 ≤ k0) (h1 : k0 ≤ 5000000) :
    Calls Try.prog 53 #[.slice (some ⟨G, 0, none⟩) n cap, .int .i64 k0] w (fun e w' => e = .returned (.int .i64 (k0 + tot F n)) ∧ Below lo w w' ∧ SSR w' lo G gs caps n (markSS k0 F)) := by
  have H := Lib.hid h
  clear h
  go_enter Try.func53, Try.ntmps53
  go_wp2
  go_loopw [1, 5] (fun t i wr => ∃ j : Nat, j ≤ n ∧ i = .int .i64 j ∧ t = .int .i64 (k0 + tot F j) ∧ Below lo w wr ∧ SSR wr lo G gs caps n (partSS k0 F j)) (fun _ i _ => n - (intOf i).toNat)
  case atStart => exact ⟨0, Nat.zero_le _, rfl, by simp [tot], Below.refl _ _, H.out.congr (fun k _ => by simp [partSS])⟩
  case round =>
    obtain ⟨j, hj, rfl, rfl, hB, hS⟩ := hrel
    have hSz := hB.size
    by_cases hjl : j < n
    · have c1 := hS.cell j hjl
      have hrow := hS.row j hjl
      have hlow := hS.low j hjl
      have hlen := partSS_len k0 F j j
      have hFj : partSS k0 F j j = F j := by simp [partSS]
      rw [hFj] at c1 hrow
      have htj : tot F (j + 1) ≤ tot F n := tot_le F hjl
      have htj' : tot F (j + 1) = tot F j + (F j).length := rfl
      have HS := Lib.hid hS
      have HM := Lib.hid (markInt64S_any (gs j) (caps j) (F j) (k0 + tot F j) wr hrow (by omega) (by omega) (by omega))
      clear hlen hFj hrow hS
      have g0 : (0 : Int) ≤ (j : Int) := by omega
      have g1 : (j : Int) < (n : Int) := by omega
      go_wp2_with (go_at_call 30; refine HM.out.mono ?_; rintro e w1 ⟨rfl, hg1, ho1⟩)
      go_roundw
      case rel => exact ⟨j + 1, by omega, by go_num, int_eq (by rw [htj']; omega), hB.grown hg1 (by omega) (fun r e => by simp at e; omega), by
        have := HS.out.mark1 hjl (markSS k0 F j) (by unfold markSS; rw [markI_length, partSS_len]) hg1 ho1
        rw [partSS_succ] at this
        exact this⟩
      case measure => simp [intOf]; omega
    · go_wp2
      go_ret
      have e : j = n := by omega
      subst e
      exact ⟨rfl, hB, hS.congr (fun k hk => by simp [partSS, hk])⟩
set_option maxRecDepth 100000 in
theorem heldInt64SS_any (lo G cap : Nat) (gs caps : Nat → Nat) (n : Nat) (F : Nat → List Int) (k0 : Int) (w : World) (h : SSR w lo G gs caps n (markSS k0 F)) (hl : n ≤ 1100000) (hT : tot F n ≤ 1100000) (h0 : 0 ≤ k0) (h1 : k0 ≤ 5000000) :
    Calls Try.prog 54 #[.slice (some ⟨G, 0, none⟩) n cap, .int .i64 k0] w (RS (.int .i64 (k0 + tot F n)) w) := by
  have H := Lib.hid h
  clear h
  go_enter Try.func54, Try.ntmps54
  go_wp2
  go_loop [1, 5] (fun t i => ∃ j : Nat, j ≤ n ∧ i = .int .i64 j ∧ t = .int .i64 (k0 + tot F j)) (fun _ i => n - (intOf i).toNat)
  case atStart => exact ⟨0, Nat.zero_le _, rfl, by simp [tot]⟩
  case round =>
    obtain ⟨j, hj, rfl, rfl⟩ := hrel
    by_cases hjl : j < n
    · have c1 := H.out.cell j hjl
      have hrow := (H.out.row j hjl).at_
      have htj : tot F (j + 1) ≤ tot F n := tot_le F hjl
      have htj' : tot F (j + 1) = tot F j + (F j).length := rfl
      have hmm : (markSS k0 F j).length = (F j).length := by unfold markSS; rw [markI_length]
      rw [hmm] at c1
      have HM := Lib.hid (heldInt64S_any (gs j) (caps j) (F j).length (k0 + tot F j) w hrow (by omega) (by omega) (by omega))
      clear hmm hrow
      obtain ⟨m, hm⟩ : ∃ m, m = k0 + (tot F j : Int) + ((F j).length : Int) := ⟨_, rfl⟩
      rw [← hm] at HM
      have hm0 : 0 ≤ m := by omega
      have HME := Lib.hid hm
      clear hm
      have g0 : (0 : Int) ≤ (j : Int) := by omega
      have g1 : (j : Int) < (n : Int) := by omega
      go_wp2_with (go_at_call 37; refine HM.out.mono ?_; rintro e w1 ⟨rfl, rfl⟩)
      go_round
      case rel => exact ⟨j + 1, by omega, by go_num, int_eq (by rw [htj', HME.out]; omega)⟩
      case measure => simp [intOf]; omega
    · go_wp2
      go_ret
      have e : j = n := by omega
      subst e
      exact RS_of rfl
end Go.Proofs.Ytlkjacgpjolbdaa

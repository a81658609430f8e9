
import Derived.Test.YtlchcnngikgjjaaProg
import Derived.Test.YtlchcnngikgjjaaPlain
import Derived.WalkKit
import Derived.WalkSpells
import Derived.BigQuiet
import Derived.Deep.QuietTactic
import Derived.Outline
import Derived.WalkLawsBesides
import Derived.Lib.Hide
namespace Go.Proofs.Ytlchcnngikgjjaa
open Go.RowKit
/-- A block as a value. -/
def bv (x : Blk) : Value := .agg #[.int .i64 x.a, .int .i64 x.b, .int .i64 x.c]
/-- Returns v; old memory stays. -/
def RV (v : Value) (w : World) (e : Ending) (w' : World) : Prop := e = .returned v ∧ Below w.heap.size w w'
/-- Returns v; the world stays. -/
def RS (v : Value) (w : World) (e : Ending) (w' : World) : Prop := e = .returned v ∧ w = w'
theorem RV_of {v u : Value} {w w' : World} (h : u = v) (hb : Below w.heap.size w w') : RV v w (.returned u) w' := ⟨by rw [h], hb⟩
theorem RS_of {v u : Value} {w : World} (h : u = v) : RS v w (.returned u) w := ⟨by rw [h], rfl⟩
theorem bool_eq {a b : Bool} (h : a = b) : Value.bool a = Value.bool b := by rw [h]
theorem int_eq {k : IntKind} {a b : Int} (h : a = b) : Value.int k a = Value.int k b := by rw [h]

theorem cmp_any (x y : Int) (w : World) : Calls Try.prog 191 #[.int .i64 x, .int .i64 y] w (RS (.int .i64 (cmp1 x y)) w) := by
  go_enter Try.func191, Try.ntmps191
  go_wp2
  all_goals go_ret
  all_goals refine RS_of (int_eq ?_)
  all_goals unfold cmp1
  · rw [if_pos ‹_›]
  · rw [if_neg (by omega), if_pos ‹_›]
  · rw [if_neg (by omega), if_neg (by omega)]

/-- Row of int64 cells. -/
def Ints (w : World) (b off : Nat) (zs : List Int) : Prop := ∀ k, k < zs.length → w.cell? ⟨b, off + k, none⟩ = some (.int .i64 (zs[k]?.getD 0))

theorem ints_next {w : World} {b off : Nat} {zs : List Int} (h : Ints w b off zs) {k : Nat} (hk : k < zs.length) :
    ∃ x r, zs.drop k = x :: r ∧ zs.drop (k + 1) = r ∧ w.cell? ⟨b, off + k, none⟩ = some (.int .i64 x) :=
  ⟨_, _, List.drop_eq_getElem_cons hk, rfl, by rw [h k hk]; simp [hk]⟩

theorem Compare_any (b1 o1 c1 b2 o2 c2 : Nat) (xs ys : List Int) (w : World) (h1 : Ints w b1 o1 xs) (h2 : Ints w b2 o2 ys) (m1 : xs.length ≤ 9223372036854775807) (_m2 : ys.length ≤ 9223372036854775807) :
    Calls Try.prog 149 #[.slice (some ⟨b1, o1, none⟩) xs.length c1, .slice (some ⟨b2, o2, none⟩) ys.length c2] w (RS (.int .i64 (cmpL xs ys)) w) := by
  have H1 := Lib.hid h1
  have H2 := Lib.hid h2
  clear h1 h2
  go_enter Try.func149, Try.ntmps149
  go_wp2
  go_loop [11] (fun i => ∃ k : Nat, k ≤ xs.length ∧ k ≤ ys.length ∧ i = .int .i64 k ∧ Hid (cmpL xs ys = cmpL (xs.drop k) (ys.drop k))) (fun i => xs.length - (intOf i).toNat)
  case atStart => exact ⟨0, Nat.zero_le _, Nat.zero_le _, rfl, Lib.hid (by simp)⟩
  case round =>
    obtain ⟨k, hk, hk2, rfl, HE⟩ := hrel
    by_cases hlt : k < xs.length
    · obtain ⟨x, r, e1, e2, hc1⟩ := ints_next H1.out hlt
      rw [e1] at HE
      have E2 := Lib.hid e2
      clear e1 e2
      by_cases hlt2 : k < ys.length
      · obtain ⟨y, s, e3, e4, hc2⟩ := ints_next H2.out hlt2
        rw [e3] at HE
        have E4 := Lib.hid e4
        clear e3 e4
        go_wp2_with (go_at_call 191; refine (cmp_any _ _ _).mono ?_; rintro e w' ⟨rfl, rfl⟩)
        · have hne : (cmp1 x y != 0) = true := by assumption
          go_ret
          exact RS_of (int_eq (by rw [HE.out, cmpL, if_neg (by simpa using hne)]))
        · have hne : (cmp1 x y != 0) = false := by assumption
          go_round
          case rel => exact ⟨k + 1, by omega, by omega, by go_num, Lib.hid (by rw [HE.out, E2.out, E4.out, cmpL, if_pos (by simpa using hne)])⟩
          case measure => simp [intOf]; omega
      · go_wp2
        go_ret
        exact RS_of (int_eq (by rw [HE.out, List.drop_eq_nil_of_le (by omega : ys.length ≤ k), cmpL]))
    · go_wp2
      · go_ret
        exact RS_of (int_eq (by rw [HE.out, List.drop_eq_nil_of_le (by omega : xs.length ≤ k), List.drop_eq_getElem_cons (by omega : k < ys.length), cmpL]))
      · go_ret
        exact RS_of (int_eq (by rw [HE.out, List.drop_eq_nil_of_le (by omega : xs.length ≤ k), List.drop_eq_nil_of_le (by omega : ys.length ≤ k), cmpL]))

theorem RS.quiet {P : Program} {f : FuncId} {args : Array Value} {w : World} {n : Nat} {v : Value} (h : Calls P f args (w.drewN n) (RS v (w.drewN n))) :
    Calls P f args (w.drewN n) fun e w'' => e = .returned v ∧ ∃ m, w'' = w.drewN m :=
  h.mono fun _ _ ⟨he, hm⟩ => ⟨he, n, hm.symm⟩
theorem ints3 {w : World} {b : Nat} {x y z : Int} (h0 : w.cell? ⟨b, 0, none⟩ = some (.int .i64 x)) (h1 : w.cell? ⟨b, 1, none⟩ = some (.int .i64 y)) (h2 : w.cell? ⟨b, 2, none⟩ = some (.int .i64 z)) : Ints w b 0 [x, y, z] := by
  intro k hk
  match k, hk with
  | 0, _ => simpa using h0
  | 1, _ => simpa using h1
  | 2, _ => simpa using h2
theorem below_drewN {B : Nat} {a w : World} (h : Below B a w) (n : Nat) : Below B a (w.drewN n) := ⟨h.os, h.tape, h.output, h.size, h.block⟩
theorem compareBlocks_any (x y : Blk) (w : World) : Calls Try.prog 164 #[bv x, bv y] w (RV (.int .i64 (cmpB x y)) w) := by
  obtain ⟨a, b, c⟩ := x
  obtain ⟨d, e, f⟩ := y
  unfold bv
  dsimp only
  go_enter Try.func164, Try.ntmps164
  go_wp2
  go_quiet ((go_at_call 149; exact RS.quiet (Compare_any _ 0 _ _ 0 _ [a, b, c] [d, e, f] _ (ints3 (by simp [go_sem]) (by simp [go_sem]) (by simp [go_sem])) (ints3 (by simp [go_sem]) (by simp [go_sem]) (by simp [go_sem])) (by simp) (by simp))))
  go_wp2
  go_ret
  exact RV_of rfl (below_drewN (((Below.refl _ _).alloc (Nat.le_refl _) _).alloc (by simp) _) _)
end Go.Proofs.Ytlchcnngikgjjaa

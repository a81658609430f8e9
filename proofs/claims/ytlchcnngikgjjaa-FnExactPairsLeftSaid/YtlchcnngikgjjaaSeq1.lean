
/- The members of the library that ask whether a value is in a slice; the iterator over the blocks through a point. -/
import Derived.Test.YtlchcnngikgjjaaThirdP
import Derived.RangeFuncNested
import Derived.RangeFuncBound
import Derived.RangeFuncCalls
import Derived.RangeFuncLeaves
import Derived.RangeFuncBox
import Derived.Shelf.Abstract
import Derived.Shelf.RegionOpen
import Derived.OwnWalkIn
import Derived.TacticsInMore
import Derived.LoopNIn
import Derived.LoopIn
import Derived.Lib.QuietBelowIn
namespace Go.Proofs.Ytlchcnngikgjjaa
open Go.RowKit Go.Maps Go.Shelf
/-- Whether p is in the list. -/
def inL (p : Int) (zs : List Int) : Bool := zs.any fun z => p == z
theorem Index_any (b off cap : Nat) (zs : List Int) (p : Int) (w : World) (h : Ints w b off zs) (m1 : zs.length ≤ 9223372036854775807) :
    Calls Try.prog 172 #[.slice (some ⟨b, off, none⟩) zs.length cap, .int .i64 p] w fun e w' => ∃ r : Int, e = .returned (.int .i64 r) ∧ w = w' ∧ (decide (r ≥ 0) = inL p zs) := by
  have H1 := Lib.hid h
  clear h
  go_enter Try.func172, Try.ntmps172
  go_wp2
  go_loop [8] (fun i => ∃ k : Nat, k ≤ zs.length ∧ i = .int .i64 k ∧ Hid (inL p zs = inL p (zs.drop k))) (fun i => zs.length - (intOf i).toNat)
  case atStart => exact ⟨0, Nat.zero_le _, rfl, Lib.hid (by simp)⟩
  case round =>
    obtain ⟨k, hk, rfl, HE⟩ := hrel
    by_cases hlt : k < zs.length
    · obtain ⟨x, r, e1, e2, hc1⟩ := ints_next H1.out hlt
      rw [e1] at HE
      have E2 := Lib.hid e2
      clear e1 e2
      go_wp2
      · have hne : (p == x) = true := by assumption
        go_ret
        exact ⟨_, rfl, rfl, by rw [HE.out]; simp [inL, hne]⟩
      · have hne : (p == x) = false := by assumption
        go_round
        case rel => exact ⟨k + 1, by omega, by go_num, Lib.hid (by rw [HE.out, E2.out]; simp [inL, hne])⟩
        case measure => simp [intOf]; omega
    · go_wp2
      go_ret
      exact ⟨_, rfl, rfl, by rw [HE.out, List.drop_eq_nil_of_le (by omega : zs.length ≤ k)]; simp [inL]⟩
theorem Contains_any (b off cap : Nat) (zs : List Int) (p : Int) (w : World) (h : Ints w b off zs) (m1 : zs.length ≤ 9223372036854775807) :
    Calls Try.prog 177 #[.slice (some ⟨b, off, none⟩) zs.length cap, .int .i64 p] w (RS (.bool (inL p zs)) w) := by
  go_enter Try.func177, Try.ntmps177
  go_wp2_with (go_at_call 172; refine (Index_any _ _ _ _ _ _ h m1).mono ?_; rintro e w' ⟨r, rfl, rfl, hr⟩)
  go_ret
  exact RS_of rfl
theorem inL3 (x : Blk) (p : Int) : inL p [x.a, x.b, x.c] = hasB x p := by
  unfold inL hasB
  rw [Bool.eq_iff_iff]
  simp [eq_comm (a := p), or_assoc]
theorem isPointI_any (v a : Int) (w : World) : Calls Try.prog 171 #[.int .i64 v, .int .i64 a] w (RS (.bool (inP v a)) w) := by
  unfold inP
  go_enter Try.func171, Try.ntmps171
  go_wp2
  all_goals go_ret
  all_goals refine RS_of (bool_eq ?_)
  all_goals simp_all
  all_goals omega
end Go.Proofs.Ytlchcnngikgjjaa

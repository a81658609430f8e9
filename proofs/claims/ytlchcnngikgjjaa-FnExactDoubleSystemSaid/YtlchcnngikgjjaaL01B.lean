
/- The model's block of three points. -/
import Derived.Test.YtlchcnngikgjjaaDblP
import Derived.Test.YtlchcnngikgjjaaSpecA
namespace Go.Proofs.Ytlchcnngikgjjaa
open Go.RowKit Go.Maps
set_option maxRecDepth 100000 in
theorem l01Block_any (a b c : Int) (w : World) (a0 : 0 ≤ a) (a1 : a ≤ 1000) (b0 : 0 ≤ b) (b1 : b ≤ 1000) (c0 : 0 ≤ c) (c1 : c ≤ 1000) : Calls Try.prog 91 #[.int .i64 a, .int .i64 b, .int .i64 c] w (RV (bv (blk3 a b c)) w) := by
  go_enter Try.func91, Try.ntmps91
  go_wp2
  all_goals
    refine bodyPost_ret (v := bv (blk3 a b c)) ?_ rfl ⟨rfl, (Below.refl _ _).alloc (Nat.le_refl _) _⟩
    simp [results, Try.results91, go_sem, bv, blk3]
    omega
end Go.Proofs.Ytlchcnngikgjjaa


/- The blocks of a double fit their kinds. -/
import Derived.Test.YtlchcnngikgjjaaDbl
namespace Go.Proofs.Ytlchcnngikgjjaa
open Go.RowKit
theorem wf_of {n : Int} (h0 : 0 ≤ n) (h1 : n ≤ 1000) : WF n := by
  have : n = wrap64 n := by unfold wrap64; omega
  unfold WF
  rw [this]
  exact wrap64_wf _
theorem dblF_len (v : Int) (bs : List Blk) : (dblF v bs).2.1.length ≤ 1100000 := by
  unfold dblF
  split
  · rename_i hi
    obtain ⟨h3, h15, hl⟩ := sys_size hi
    split
    · split
      · show (sortB (dblL v bs)).length ≤ _
        rw [sortB_length, dblL_len]
        omega
      · simp
    · simp
  · simp
theorem dblF_wf (v : Int) (bs : List Blk) : ∀ x ∈ (dblF v bs).2.1, WFB x := by
  unfold dblF
  split
  · rename_i hi
    obtain ⟨h3, h15, hl⟩ := sys_size hi
    split
    · split
      · intro x hx
        obtain ⟨h1, h2, h3⟩ := dblL_mem (by omega) h15 (sys_good hi) x (sortB_mem.1 hx)
        exact ⟨wf_of h1.1 h1.2, wf_of h2.1 h2.2, wf_of h3.1 h3.2⟩
      · simp
    · simp
  · simp
end Go.Proofs.Ytlchcnngikgjjaa


/- The law FnExactIsSystem returns true. -/
import Derived.Test.YtlchcnngikgjjaaLawB
import Derived.Deep.RegionWith
namespace Go.Proofs.Ytlchcnngikgjjaa
open Go.RowKit Go.Maps
/-- What is known of a slice of blocks that came in. -/
def InB (w : World) (s : Value) (bs : List Blk) : Prop :=
  (∀ x ∈ bs, WFB x) ∧ bs.length ≤ 9223372036854775807 ∧ ((∃ a c, s = .slice a 0 c ∧ bs = []) ∨ ∃ b off cap, s = .slice (some ⟨b, off, none⟩) bs.length cap ∧ b < w.heap.size ∧ Blks w b off bs)
theorem InB.slice {w : World} {s : Value} {bs : List Blk} (h : InB w s bs) : ∃ a c, s = .slice a bs.length c := by
  rcases h.2.2 with ⟨a0, c0, rfl, rfl⟩ | ⟨b, off, cap, rfl, _⟩ <;> exact ⟨_, _, rfl⟩
theorem InB.sb {w : World} {s : Value} {bs : List Blk} (h : InB w s bs) (hl : bs.length ≤ 1048576) : SB w s bs := ⟨h.1, by omega, h.2.2⟩

end Go.Proofs.Ytlchcnngikgjjaa

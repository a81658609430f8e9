/-
  No cell of these rows narrows 'for every input' (looked for: loops, veiled, ifaces, maps, wideKeys, modest, calm, conditions, laid).
  DERIVED. THE GIVEN ROWS OF THIS SEAT. 11 by the template 'for every input the law returns true; each argument reads behind the call as it read before'; 0 by the template 'total and deterministic' (their statements: YtahgialnhomefaaTotals.lean).
  GIVEN WITH THE SEED: the statements are not yours to turn. If you find one false, say at which input.
  Laid BY PROGRAM, IN A SANDBOX (cutbox-rows.mjs): the forced cells as the released guide's own fill.sh prints them over the translation 5e7637f726fc19ed… (all of the seat's roots in one cut). By AI agents, Wed Nov 11 2026. No macro, syntax, notation, axiom, sorry.
-/
import Derived.Test.YtahgialnhomefaaChecked
import GoSem.Claim
import GoSem.ClaimJoined
import GoSem.ClaimMapViews
import Derived.JoinedTies
import Derived.KernelRfl
namespace Go.Proofs.Ytahgialnhomefaa
/- THE CELL 'sum', in the pinned program and in every row, IS THE sha256 OF THE DUMP (.gsa) THAT YtahgialnhomefaaProg.lean LOADS. Nothing in Lean hashes anything: it is a label: what it is worth is what the hold of that sum in a sandbox is worth. -/
noncomputable def Try.pinned : Pinned := { name := "ytahgialnhomefaa", sum := "5e7637f726fc19ede4f15bf73ff30eb62f64f77016be04c5fed68eebb15e073d", checked := Try.checked }
namespace Rows
def none {H : Type} : Left H := { results := [], args := [] }

/-- 'laws.FnExactProductOf': WHATEVER THE INPUT: true; the input reads as it did. -/
def fnExactProductOfSpec : ChangeSpec := { name := "fnExactProductOf", fn := fun _ => fun
  | [d1, d2, d3] => { results := [.lit (.bool true)], args := [d1, d2, d3] }
  | _ => none }
def fnExactProductOfRow : OpenClaim := { program := "ytahgialnhomefaa", sum := "5e7637f726fc19ede4f15bf73ff30eb62f64f77016be04c5fed68eebb15e073d", func := "loop.example/g01355/laws.FnExactProductOf", spec := "fnExactProductOf", unfollowed := true, recurses := true, plainKeys := false, apart := false }
def FnExactProductOfSaid : Prop := fnExactProductOfRow.holds Try.pinned (OpenSpec.ofChange fnExactProductOfSpec)

/-- ITS FALSE NEIGHBOUR: 'it returns false'. Refute it at one input. -/
def fnExactProductOfWrong : ChangeSpec := { name := "fnExactProductOf", fn := fun _ => fun
  | [d1, d2, d3] => { results := [.lit (.bool false)], args := [d1, d2, d3] }
  | _ => none }
def FnExactProductOfWrongFalsely : Prop := fnExactProductOfRow.holds Try.pinned (OpenSpec.ofChange fnExactProductOfWrong)

/-- 'laws.FnExactLoopProduct': WHATEVER THE INPUT: true; the input reads as it did. -/
def fnExactLoopProductSpec : ChangeSpec := { name := "fnExactLoopProduct", fn := fun _ => fun
  | [d1, d2, d3] => { results := [.lit (.bool true)], args := [d1, d2, d3] }
  | _ => none }
def fnExactLoopProductRow : OpenClaim := { program := "ytahgialnhomefaa", sum := "5e7637f726fc19ede4f15bf73ff30eb62f64f77016be04c5fed68eebb15e073d", func := "loop.example/g01355/laws.FnExactLoopProduct", spec := "fnExactLoopProduct", unfollowed := true, recurses := true, plainKeys := false, apart := false }
def FnExactLoopProductSaid : Prop := fnExactLoopProductRow.holds Try.pinned (OpenSpec.ofChange fnExactLoopProductSpec)

/-- ITS FALSE NEIGHBOUR: 'it returns false'. Refute it at one input. -/
def fnExactLoopProductWrong : ChangeSpec := { name := "fnExactLoopProduct", fn := fun _ => fun
  | [d1, d2, d3] => { results := [.lit (.bool false)], args := [d1, d2, d3] }
  | _ => none }
def FnExactLoopProductWrongFalsely : Prop := fnExactLoopProductRow.holds Try.pinned (OpenSpec.ofChange fnExactLoopProductWrong)

/-- 'laws.FnExactCountAssociative': WHATEVER THE INPUT: true; the input reads as it did. -/
def fnExactCountAssociativeSpec : ChangeSpec := { name := "fnExactCountAssociative", fn := fun _ => fun
  | [d] => { results := [.lit (.bool true)], args := [d] }
  | _ => none }
def fnExactCountAssociativeRow : OpenClaim := { program := "ytahgialnhomefaa", sum := "5e7637f726fc19ede4f15bf73ff30eb62f64f77016be04c5fed68eebb15e073d", func := "loop.example/g01355/laws.FnExactCountAssociative", spec := "fnExactCountAssociative", unfollowed := true, recurses := true, plainKeys := false, apart := false }
def FnExactCountAssociativeSaid : Prop := fnExactCountAssociativeRow.holds Try.pinned (OpenSpec.ofChange fnExactCountAssociativeSpec)

/-- ITS FALSE NEIGHBOUR: 'it returns false'. Refute it at one input. -/
def fnExactCountAssociativeWrong : ChangeSpec := { name := "fnExactCountAssociative", fn := fun _ => fun
  | [d] => { results := [.lit (.bool false)], args := [d] }
  | _ => none }
def FnExactCountAssociativeWrongFalsely : Prop := fnExactCountAssociativeRow.holds Try.pinned (OpenSpec.ofChange fnExactCountAssociativeWrong)

/-- 'laws.FnExactCountPointTriples': WHATEVER THE INPUT: true; the input reads as it did. -/
def fnExactCountPointTriplesSpec : ChangeSpec := { name := "fnExactCountPointTriples", fn := fun _ => fun
  | [d] => { results := [.lit (.bool true)], args := [d] }
  | _ => none }
def fnExactCountPointTriplesRow : OpenClaim := { program := "ytahgialnhomefaa", sum := "5e7637f726fc19ede4f15bf73ff30eb62f64f77016be04c5fed68eebb15e073d", func := "loop.example/g01355/laws.FnExactCountPointTriples", spec := "fnExactCountPointTriples", unfollowed := true, recurses := true, plainKeys := false, apart := false }
def FnExactCountPointTriplesSaid : Prop := fnExactCountPointTriplesRow.holds Try.pinned (OpenSpec.ofChange fnExactCountPointTriplesSpec)

/-- ITS FALSE NEIGHBOUR: 'it returns false'. Refute it at one input. -/
def fnExactCountPointTriplesWrong : ChangeSpec := { name := "fnExactCountPointTriples", fn := fun _ => fun
  | [d] => { results := [.lit (.bool false)], args := [d] }
  | _ => none }
def FnExactCountPointTriplesWrongFalsely : Prop := fnExactCountPointTriplesRow.holds Try.pinned (OpenSpec.ofChange fnExactCountPointTriplesWrong)

/-- 'laws.FnExactIsDistributive': WHATEVER THE INPUT: true; the input reads as it did. -/
def fnExactIsDistributiveSpec : ChangeSpec := { name := "fnExactIsDistributive", fn := fun _ => fun
  | [d] => { results := [.lit (.bool true)], args := [d] }
  | _ => none }
def fnExactIsDistributiveRow : OpenClaim := { program := "ytahgialnhomefaa", sum := "5e7637f726fc19ede4f15bf73ff30eb62f64f77016be04c5fed68eebb15e073d", func := "loop.example/g01355/laws.FnExactIsDistributive", spec := "fnExactIsDistributive", unfollowed := true, recurses := true, plainKeys := false, apart := false }
def FnExactIsDistributiveSaid : Prop := fnExactIsDistributiveRow.holds Try.pinned (OpenSpec.ofChange fnExactIsDistributiveSpec)

/-- ITS FALSE NEIGHBOUR: 'it returns false'. Refute it at one input. -/
def fnExactIsDistributiveWrong : ChangeSpec := { name := "fnExactIsDistributive", fn := fun _ => fun
  | [d] => { results := [.lit (.bool false)], args := [d] }
  | _ => none }
def FnExactIsDistributiveWrongFalsely : Prop := fnExactIsDistributiveRow.holds Try.pinned (OpenSpec.ofChange fnExactIsDistributiveWrong)

/-- 'laws.FnExactTurnOf': WHATEVER THE INPUT: true; the input reads as it did. -/
def fnExactTurnOfSpec : ChangeSpec := { name := "fnExactTurnOf", fn := fun _ => fun
  | [d1, d2] => { results := [.lit (.bool true)], args := [d1, d2] }
  | _ => none }
def fnExactTurnOfRow : OpenClaim := { program := "ytahgialnhomefaa", sum := "5e7637f726fc19ede4f15bf73ff30eb62f64f77016be04c5fed68eebb15e073d", func := "loop.example/g01355/laws.FnExactTurnOf", spec := "fnExactTurnOf", unfollowed := true, recurses := true, plainKeys := false, apart := false }
def FnExactTurnOfSaid : Prop := fnExactTurnOfRow.holds Try.pinned (OpenSpec.ofChange fnExactTurnOfSpec)

/-- ITS FALSE NEIGHBOUR: 'it returns false'. Refute it at one input. -/
def fnExactTurnOfWrong : ChangeSpec := { name := "fnExactTurnOf", fn := fun _ => fun
  | [d1, d2] => { results := [.lit (.bool false)], args := [d1, d2] }
  | _ => none }
def FnExactTurnOfWrongFalsely : Prop := fnExactTurnOfRow.holds Try.pinned (OpenSpec.ofChange fnExactTurnOfWrong)

/-- 'laws.FnExactProductOfTurns': WHATEVER THE INPUT: true; the input reads as it did. -/
def fnExactProductOfTurnsSpec : ChangeSpec := { name := "fnExactProductOfTurns", fn := fun _ => fun
  | [d1, d2, d3] => { results := [.lit (.bool true)], args := [d1, d2, d3] }
  | _ => none }
def fnExactProductOfTurnsRow : OpenClaim := { program := "ytahgialnhomefaa", sum := "5e7637f726fc19ede4f15bf73ff30eb62f64f77016be04c5fed68eebb15e073d", func := "loop.example/g01355/laws.FnExactProductOfTurns", spec := "fnExactProductOfTurns", unfollowed := true, recurses := true, plainKeys := false, apart := false }
def FnExactProductOfTurnsSaid : Prop := fnExactProductOfTurnsRow.holds Try.pinned (OpenSpec.ofChange fnExactProductOfTurnsSpec)

/-- ITS FALSE NEIGHBOUR: 'it returns false'. Refute it at one input. -/
def fnExactProductOfTurnsWrong : ChangeSpec := { name := "fnExactProductOfTurns", fn := fun _ => fun
  | [d1, d2, d3] => { results := [.lit (.bool false)], args := [d1, d2, d3] }
  | _ => none }
def FnExactProductOfTurnsWrongFalsely : Prop := fnExactProductOfTurnsRow.holds Try.pinned (OpenSpec.ofChange fnExactProductOfTurnsWrong)

/-- 'laws.FnExactRankModulo': WHATEVER THE INPUT: true; the input reads as it did. -/
def fnExactRankModuloSpec : ChangeSpec := { name := "fnExactRankModulo", fn := fun _ => fun
  | [d1, d2] => { results := [.lit (.bool true)], args := [d1, d2] }
  | _ => none }
def fnExactRankModuloRow : OpenClaim := { program := "ytahgialnhomefaa", sum := "5e7637f726fc19ede4f15bf73ff30eb62f64f77016be04c5fed68eebb15e073d", func := "loop.example/g01355/laws.FnExactRankModulo", spec := "fnExactRankModulo", unfollowed := true, recurses := true, plainKeys := false, apart := false }
def FnExactRankModuloSaid : Prop := fnExactRankModuloRow.holds Try.pinned (OpenSpec.ofChange fnExactRankModuloSpec)

/-- ITS FALSE NEIGHBOUR: 'it returns false'. Refute it at one input. -/
def fnExactRankModuloWrong : ChangeSpec := { name := "fnExactRankModulo", fn := fun _ => fun
  | [d1, d2] => { results := [.lit (.bool false)], args := [d1, d2] }
  | _ => none }
def FnExactRankModuloWrongFalsely : Prop := fnExactRankModuloRow.holds Try.pinned (OpenSpec.ofChange fnExactRankModuloWrong)

/-- 'laws.FnExactIsWord': WHATEVER THE INPUT: true; the input reads as it did. -/
def fnExactIsWordSpec : ChangeSpec := { name := "fnExactIsWord", fn := fun _ => fun
  | [d1, d2] => { results := [.lit (.bool true)], args := [d1, d2] }
  | _ => none }
def fnExactIsWordRow : OpenClaim := { program := "ytahgialnhomefaa", sum := "5e7637f726fc19ede4f15bf73ff30eb62f64f77016be04c5fed68eebb15e073d", func := "loop.example/g01355/laws.FnExactIsWord", spec := "fnExactIsWord", unfollowed := true, recurses := true, plainKeys := false, apart := false }
def FnExactIsWordSaid : Prop := fnExactIsWordRow.holds Try.pinned (OpenSpec.ofChange fnExactIsWordSpec)

/-- ITS FALSE NEIGHBOUR: 'it returns false'. Refute it at one input. -/
def fnExactIsWordWrong : ChangeSpec := { name := "fnExactIsWord", fn := fun _ => fun
  | [d1, d2] => { results := [.lit (.bool false)], args := [d1, d2] }
  | _ => none }
def FnExactIsWordWrongFalsely : Prop := fnExactIsWordRow.holds Try.pinned (OpenSpec.ofChange fnExactIsWordWrong)

/-- 'laws.FnExactBlockGraphDegrees': WHATEVER THE INPUT: true; the input reads as it did. -/
def fnExactBlockGraphDegreesSpec : ChangeSpec := { name := "fnExactBlockGraphDegrees", fn := fun _ => fun
  | [d] => { results := [.lit (.bool true)], args := [d] }
  | _ => none }
def fnExactBlockGraphDegreesRow : OpenClaim := { program := "ytahgialnhomefaa", sum := "5e7637f726fc19ede4f15bf73ff30eb62f64f77016be04c5fed68eebb15e073d", func := "loop.example/g01355/laws.FnExactBlockGraphDegrees", spec := "fnExactBlockGraphDegrees", unfollowed := true, recurses := true, plainKeys := false, apart := false }
def FnExactBlockGraphDegreesSaid : Prop := fnExactBlockGraphDegreesRow.holds Try.pinned (OpenSpec.ofChange fnExactBlockGraphDegreesSpec)

/-- ITS FALSE NEIGHBOUR: 'it returns false'. Refute it at one input. -/
def fnExactBlockGraphDegreesWrong : ChangeSpec := { name := "fnExactBlockGraphDegrees", fn := fun _ => fun
  | [d] => { results := [.lit (.bool false)], args := [d] }
  | _ => none }
def FnExactBlockGraphDegreesWrongFalsely : Prop := fnExactBlockGraphDegreesRow.holds Try.pinned (OpenSpec.ofChange fnExactBlockGraphDegreesWrong)

/-- 'laws.FnExactCommonNeighbours': WHATEVER THE INPUT: true; the input reads as it did. -/
def fnExactCommonNeighboursSpec : ChangeSpec := { name := "fnExactCommonNeighbours", fn := fun _ => fun
  | [d1, d2, d3] => { results := [.lit (.bool true)], args := [d1, d2, d3] }
  | _ => none }
def fnExactCommonNeighboursRow : OpenClaim := { program := "ytahgialnhomefaa", sum := "5e7637f726fc19ede4f15bf73ff30eb62f64f77016be04c5fed68eebb15e073d", func := "loop.example/g01355/laws.FnExactCommonNeighbours", spec := "fnExactCommonNeighbours", unfollowed := true, recurses := true, plainKeys := false, apart := false }
def FnExactCommonNeighboursSaid : Prop := fnExactCommonNeighboursRow.holds Try.pinned (OpenSpec.ofChange fnExactCommonNeighboursSpec)

/-- ITS FALSE NEIGHBOUR: 'it returns false'. Refute it at one input. -/
def fnExactCommonNeighboursWrong : ChangeSpec := { name := "fnExactCommonNeighbours", fn := fun _ => fun
  | [d1, d2, d3] => { results := [.lit (.bool false)], args := [d1, d2, d3] }
  | _ => none }
def FnExactCommonNeighboursWrongFalsely : Prop := fnExactCommonNeighboursRow.holds Try.pinned (OpenSpec.ofChange fnExactCommonNeighboursWrong)

/- THE SECOND FORM. 'bulk': how many values and letters a reading holds, each counted each time it is reached (what is shared counts as often as it is met; a slice's spare places count too). A statement '..UptoSaid' is the law's where the arguments, and the package variables that the reading takes, are together of bulk at most 1048576: NARROWER than '..Said'. Prove '..Said' where nothing that the law and all that it calls make is longer than what came in: it says more and counts as full. Else prove '..UptoSaid'. A law counts once. -/
mutual
def uptoBulk {H : Type} : DataW H → Nat
  | .lit (.string bytes) => bytes.length + 1
  | .lit _ => 1
  | .nil => 1
  | .ptr d => uptoBulk d + 1
  | .slice elems spare => uptoBulkAll elems + uptoBulkAll spare + 1
  | .agg parts => uptoBulkAll parts + 1
  | .iface _ d => uptoBulk d + 1
  | .map entries => uptoBulkEntries entries + 1
  | .held _ => 1
def uptoBulkAll {H : Type} : List (DataW H) → Nat
  | [] => 0
  | d :: r => uptoBulk d + uptoBulkAll r
def uptoBulkEntries {H : Type} : List (Lit × DataW H) → Nat
  | [] => 0
  | x :: r => uptoBulkEntry x + uptoBulkEntries r
def uptoBulkEntry {H : Type} : Lit × DataW H → Nat
  | (.string bytes, d) => bytes.length + uptoBulk d + 1
  | (_, d) => uptoBulk d + 1
 end
def uptoSmall : (H : Type) → List (DataW H) → Bool := fun _ ds => decide (uptoBulkAll ds ≤ 1048576)
def OpenSpec.upto (s : _root_.Go.ChangeSpec) : _root_.Go.OpenSpec := { _root_.Go.OpenSpec.ofChange s with cond := some uptoSmall }

/-- 'laws.FnExactProductOf', WHERE WHAT IT READS IS OF BULK AT MOST 1048576: true; the input reads as it did. -/
def fnExactProductOfUptoRow : OpenClaim := { program := "ytahgialnhomefaa", sum := "5e7637f726fc19ede4f15bf73ff30eb62f64f77016be04c5fed68eebb15e073d", func := "loop.example/g01355/laws.FnExactProductOf", spec := "fnExactProductOf", unfollowed := true, recurses := true, plainKeys := false, apart := false, narrowed := true }
def FnExactProductOfUptoSaid : Prop := fnExactProductOfUptoRow.holds Try.pinned (OpenSpec.upto fnExactProductOfSpec)

/-- 'laws.FnExactLoopProduct', WHERE WHAT IT READS IS OF BULK AT MOST 1048576: true; the input reads as it did. -/
def fnExactLoopProductUptoRow : OpenClaim := { program := "ytahgialnhomefaa", sum := "5e7637f726fc19ede4f15bf73ff30eb62f64f77016be04c5fed68eebb15e073d", func := "loop.example/g01355/laws.FnExactLoopProduct", spec := "fnExactLoopProduct", unfollowed := true, recurses := true, plainKeys := false, apart := false, narrowed := true }
def FnExactLoopProductUptoSaid : Prop := fnExactLoopProductUptoRow.holds Try.pinned (OpenSpec.upto fnExactLoopProductSpec)

/-- 'laws.FnExactCountAssociative', WHERE WHAT IT READS IS OF BULK AT MOST 1048576: true; the input reads as it did. -/
def fnExactCountAssociativeUptoRow : OpenClaim := { program := "ytahgialnhomefaa", sum := "5e7637f726fc19ede4f15bf73ff30eb62f64f77016be04c5fed68eebb15e073d", func := "loop.example/g01355/laws.FnExactCountAssociative", spec := "fnExactCountAssociative", unfollowed := true, recurses := true, plainKeys := false, apart := false, narrowed := true }
def FnExactCountAssociativeUptoSaid : Prop := fnExactCountAssociativeUptoRow.holds Try.pinned (OpenSpec.upto fnExactCountAssociativeSpec)

/-- 'laws.FnExactCountPointTriples', WHERE WHAT IT READS IS OF BULK AT MOST 1048576: true; the input reads as it did. -/
def fnExactCountPointTriplesUptoRow : OpenClaim := { program := "ytahgialnhomefaa", sum := "5e7637f726fc19ede4f15bf73ff30eb62f64f77016be04c5fed68eebb15e073d", func := "loop.example/g01355/laws.FnExactCountPointTriples", spec := "fnExactCountPointTriples", unfollowed := true, recurses := true, plainKeys := false, apart := false, narrowed := true }
def FnExactCountPointTriplesUptoSaid : Prop := fnExactCountPointTriplesUptoRow.holds Try.pinned (OpenSpec.upto fnExactCountPointTriplesSpec)

/-- 'laws.FnExactIsDistributive', WHERE WHAT IT READS IS OF BULK AT MOST 1048576: true; the input reads as it did. -/
def fnExactIsDistributiveUptoRow : OpenClaim := { program := "ytahgialnhomefaa", sum := "5e7637f726fc19ede4f15bf73ff30eb62f64f77016be04c5fed68eebb15e073d", func := "loop.example/g01355/laws.FnExactIsDistributive", spec := "fnExactIsDistributive", unfollowed := true, recurses := true, plainKeys := false, apart := false, narrowed := true }
def FnExactIsDistributiveUptoSaid : Prop := fnExactIsDistributiveUptoRow.holds Try.pinned (OpenSpec.upto fnExactIsDistributiveSpec)

/-- 'laws.FnExactTurnOf', WHERE WHAT IT READS IS OF BULK AT MOST 1048576: true; the input reads as it did. -/
def fnExactTurnOfUptoRow : OpenClaim := { program := "ytahgialnhomefaa", sum := "5e7637f726fc19ede4f15bf73ff30eb62f64f77016be04c5fed68eebb15e073d", func := "loop.example/g01355/laws.FnExactTurnOf", spec := "fnExactTurnOf", unfollowed := true, recurses := true, plainKeys := false, apart := false, narrowed := true }
def FnExactTurnOfUptoSaid : Prop := fnExactTurnOfUptoRow.holds Try.pinned (OpenSpec.upto fnExactTurnOfSpec)

/-- 'laws.FnExactProductOfTurns', WHERE WHAT IT READS IS OF BULK AT MOST 1048576: true; the input reads as it did. -/
def fnExactProductOfTurnsUptoRow : OpenClaim := { program := "ytahgialnhomefaa", sum := "5e7637f726fc19ede4f15bf73ff30eb62f64f77016be04c5fed68eebb15e073d", func := "loop.example/g01355/laws.FnExactProductOfTurns", spec := "fnExactProductOfTurns", unfollowed := true, recurses := true, plainKeys := false, apart := false, narrowed := true }
def FnExactProductOfTurnsUptoSaid : Prop := fnExactProductOfTurnsUptoRow.holds Try.pinned (OpenSpec.upto fnExactProductOfTurnsSpec)

/-- 'laws.FnExactRankModulo', WHERE WHAT IT READS IS OF BULK AT MOST 1048576: true; the input reads as it did. -/
def fnExactRankModuloUptoRow : OpenClaim := { program := "ytahgialnhomefaa", sum := "5e7637f726fc19ede4f15bf73ff30eb62f64f77016be04c5fed68eebb15e073d", func := "loop.example/g01355/laws.FnExactRankModulo", spec := "fnExactRankModulo", unfollowed := true, recurses := true, plainKeys := false, apart := false, narrowed := true }
def FnExactRankModuloUptoSaid : Prop := fnExactRankModuloUptoRow.holds Try.pinned (OpenSpec.upto fnExactRankModuloSpec)

/-- 'laws.FnExactIsWord', WHERE WHAT IT READS IS OF BULK AT MOST 1048576: true; the input reads as it did. -/
def fnExactIsWordUptoRow : OpenClaim := { program := "ytahgialnhomefaa", sum := "5e7637f726fc19ede4f15bf73ff30eb62f64f77016be04c5fed68eebb15e073d", func := "loop.example/g01355/laws.FnExactIsWord", spec := "fnExactIsWord", unfollowed := true, recurses := true, plainKeys := false, apart := false, narrowed := true }
def FnExactIsWordUptoSaid : Prop := fnExactIsWordUptoRow.holds Try.pinned (OpenSpec.upto fnExactIsWordSpec)

/-- 'laws.FnExactBlockGraphDegrees', WHERE WHAT IT READS IS OF BULK AT MOST 1048576: true; the input reads as it did. -/
def fnExactBlockGraphDegreesUptoRow : OpenClaim := { program := "ytahgialnhomefaa", sum := "5e7637f726fc19ede4f15bf73ff30eb62f64f77016be04c5fed68eebb15e073d", func := "loop.example/g01355/laws.FnExactBlockGraphDegrees", spec := "fnExactBlockGraphDegrees", unfollowed := true, recurses := true, plainKeys := false, apart := false, narrowed := true }
def FnExactBlockGraphDegreesUptoSaid : Prop := fnExactBlockGraphDegreesUptoRow.holds Try.pinned (OpenSpec.upto fnExactBlockGraphDegreesSpec)

/-- 'laws.FnExactCommonNeighbours', WHERE WHAT IT READS IS OF BULK AT MOST 1048576: true; the input reads as it did. -/
def fnExactCommonNeighboursUptoRow : OpenClaim := { program := "ytahgialnhomefaa", sum := "5e7637f726fc19ede4f15bf73ff30eb62f64f77016be04c5fed68eebb15e073d", func := "loop.example/g01355/laws.FnExactCommonNeighbours", spec := "fnExactCommonNeighbours", unfollowed := true, recurses := true, plainKeys := false, apart := false, narrowed := true }
def FnExactCommonNeighboursUptoSaid : Prop := fnExactCommonNeighboursUptoRow.holds Try.pinned (OpenSpec.upto fnExactCommonNeighboursSpec)

end Rows
end Go.Proofs.Ytahgialnhomefaa

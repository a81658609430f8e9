/-
  No cell of these rows narrows 'for every input' (looked for: loops, veiled, ifaces, maps, wideKeys, modest, calm, conditions, laid).
  DERIVED. THE GIVEN ROWS OF THIS SEAT. 12 by the template 'for every input the law returns true; each argument reads behind the call as it read before'; 0 by the template 'total and deterministic' (their statements: YtlhiokcdjnmfmaaTotals.lean).
  GIVEN WITH THE SEED: the statements are not yours to turn. If you find one false, say at which input.
  Laid BY PROGRAM, IN A SANDBOX (cutbox-rows.mjs): the forced cells as the released guide's own fill.sh prints them over the translation 9301a15951ea2e31… (all of the seat's roots in one cut). By AI agents, Wed Nov 11 2026. No macro, syntax, notation, axiom, sorry.
-/
import Derived.Test.YtlhiokcdjnmfmaaChecked
import GoSem.Claim
import GoSem.ClaimJoined
import GoSem.ClaimMapViews
import Derived.JoinedTies
import Derived.KernelRfl
namespace Go.Proofs.Ytlhiokcdjnmfmaa
/- THE CELL 'sum', in the pinned program and in every row, IS THE sha256 OF THE DUMP (.gsa) THAT YtlhiokcdjnmfmaaProg.lean LOADS. Nothing in Lean hashes anything: it is a label: what it is worth is what the hold of that sum in a sandbox is worth. -/
noncomputable def Try.pinned : Pinned := { name := "ytlhiokcdjnmfmaa", sum := "9301a15951ea2e3107863478cd3a0a842213c01065a49b842259ecf4c997af6a", checked := Try.checked }
namespace Rows
def none {H : Type} : Left H := { results := [], args := [] }

/-- 'laws.FnExactDegreesOf': WHATEVER THE INPUT: true; the input reads as it did. -/
def fnExactDegreesOfSpec : ChangeSpec := { name := "fnExactDegreesOf", fn := fun _ => fun
  | [d] => { results := [.lit (.bool true)], args := [d] }
  | _ => none }
def fnExactDegreesOfRow : OpenClaim := { program := "ytlhiokcdjnmfmaa", sum := "9301a15951ea2e3107863478cd3a0a842213c01065a49b842259ecf4c997af6a", func := "loop.example/g01355/laws.FnExactDegreesOf", spec := "fnExactDegreesOf", unfollowed := true, recurses := true, plainKeys := false, apart := false }
def FnExactDegreesOfSaid : Prop := fnExactDegreesOfRow.holds Try.pinned (OpenSpec.ofChange fnExactDegreesOfSpec)

/-- ITS FALSE NEIGHBOUR: 'it returns false'. Refute it at one input. -/
def fnExactDegreesOfWrong : ChangeSpec := { name := "fnExactDegreesOf", fn := fun _ => fun
  | [d] => { results := [.lit (.bool false)], args := [d] }
  | _ => none }
def FnExactDegreesOfWrongFalsely : Prop := fnExactDegreesOfRow.holds Try.pinned (OpenSpec.ofChange fnExactDegreesOfWrong)

/-- 'laws.FnExactThreefoldSystem': WHATEVER THE INPUT: true; the input reads as it did. -/
def fnExactThreefoldSystemSpec : ChangeSpec := { name := "fnExactThreefoldSystem", fn := fun _ => fun
  | [d] => { results := [.lit (.bool true)], args := [d] }
  | _ => none }
def fnExactThreefoldSystemRow : OpenClaim := { program := "ytlhiokcdjnmfmaa", sum := "9301a15951ea2e3107863478cd3a0a842213c01065a49b842259ecf4c997af6a", func := "loop.example/g01355/laws.FnExactThreefoldSystem", spec := "fnExactThreefoldSystem", unfollowed := true, recurses := true, plainKeys := false, apart := false }
def FnExactThreefoldSystemSaid : Prop := fnExactThreefoldSystemRow.holds Try.pinned (OpenSpec.ofChange fnExactThreefoldSystemSpec)

/-- ITS FALSE NEIGHBOUR: 'it returns false'. Refute it at one input. -/
def fnExactThreefoldSystemWrong : ChangeSpec := { name := "fnExactThreefoldSystem", fn := fun _ => fun
  | [d] => { results := [.lit (.bool false)], args := [d] }
  | _ => none }
def FnExactThreefoldSystemWrongFalsely : Prop := fnExactThreefoldSystemRow.holds Try.pinned (OpenSpec.ofChange fnExactThreefoldSystemWrong)

/-- 'laws.FnExactIsDifferenceFamily': WHATEVER THE INPUT: true; the input reads as it did. -/
def fnExactIsDifferenceFamilySpec : ChangeSpec := { name := "fnExactIsDifferenceFamily", fn := fun _ => fun
  | [d1, d2] => { results := [.lit (.bool true)], args := [d1, d2] }
  | _ => none }
def fnExactIsDifferenceFamilyRow : OpenClaim := { program := "ytlhiokcdjnmfmaa", sum := "9301a15951ea2e3107863478cd3a0a842213c01065a49b842259ecf4c997af6a", func := "loop.example/g01355/laws.FnExactIsDifferenceFamily", spec := "fnExactIsDifferenceFamily", recurses := true, plainKeys := false, apart := false }
def FnExactIsDifferenceFamilySaid : Prop := fnExactIsDifferenceFamilyRow.holds Try.pinned (OpenSpec.ofChange fnExactIsDifferenceFamilySpec)

/-- ITS FALSE NEIGHBOUR: 'it returns false'. Refute it at one input. -/
def fnExactIsDifferenceFamilyWrong : ChangeSpec := { name := "fnExactIsDifferenceFamily", fn := fun _ => fun
  | [d1, d2] => { results := [.lit (.bool false)], args := [d1, d2] }
  | _ => none }
def FnExactIsDifferenceFamilyWrongFalsely : Prop := fnExactIsDifferenceFamilyRow.holds Try.pinned (OpenSpec.ofChange fnExactIsDifferenceFamilyWrong)

/-- 'laws.FnExactCyclicSystem': WHATEVER THE INPUT: true; the input reads as it did. -/
def fnExactCyclicSystemSpec : ChangeSpec := { name := "fnExactCyclicSystem", fn := fun _ => fun
  | [d1, d2] => { results := [.lit (.bool true)], args := [d1, d2] }
  | _ => none }
def fnExactCyclicSystemRow : OpenClaim := { program := "ytlhiokcdjnmfmaa", sum := "9301a15951ea2e3107863478cd3a0a842213c01065a49b842259ecf4c997af6a", func := "loop.example/g01355/laws.FnExactCyclicSystem", spec := "fnExactCyclicSystem", unfollowed := true, recurses := true, plainKeys := false, apart := false }
def FnExactCyclicSystemSaid : Prop := fnExactCyclicSystemRow.holds Try.pinned (OpenSpec.ofChange fnExactCyclicSystemSpec)

/-- ITS FALSE NEIGHBOUR: 'it returns false'. Refute it at one input. -/
def fnExactCyclicSystemWrong : ChangeSpec := { name := "fnExactCyclicSystem", fn := fun _ => fun
  | [d1, d2] => { results := [.lit (.bool false)], args := [d1, d2] }
  | _ => none }
def FnExactCyclicSystemWrongFalsely : Prop := fnExactCyclicSystemRow.holds Try.pinned (OpenSpec.ofChange fnExactCyclicSystemWrong)

/-- 'laws.FnExactPaschList': WHATEVER THE INPUT: true; the input reads as it did. -/
def fnExactPaschListSpec : ChangeSpec := { name := "fnExactPaschList", fn := fun _ => fun
  | [d] => { results := [.lit (.bool true)], args := [d] }
  | _ => none }
def fnExactPaschListRow : OpenClaim := { program := "ytlhiokcdjnmfmaa", sum := "9301a15951ea2e3107863478cd3a0a842213c01065a49b842259ecf4c997af6a", func := "loop.example/g01355/laws.FnExactPaschList", spec := "fnExactPaschList", recurses := true, plainKeys := false, apart := false }
def FnExactPaschListSaid : Prop := fnExactPaschListRow.holds Try.pinned (OpenSpec.ofChange fnExactPaschListSpec)

/-- ITS FALSE NEIGHBOUR: 'it returns false'. Refute it at one input. -/
def fnExactPaschListWrong : ChangeSpec := { name := "fnExactPaschList", fn := fun _ => fun
  | [d] => { results := [.lit (.bool false)], args := [d] }
  | _ => none }
def FnExactPaschListWrongFalsely : Prop := fnExactPaschListRow.holds Try.pinned (OpenSpec.ofChange fnExactPaschListWrong)

/-- 'laws.FnExactCountPasch': WHATEVER THE INPUT: true; the input reads as it did. -/
def fnExactCountPaschSpec : ChangeSpec := { name := "fnExactCountPasch", fn := fun _ => fun
  | [d] => { results := [.lit (.bool true)], args := [d] }
  | _ => none }
def fnExactCountPaschRow : OpenClaim := { program := "ytlhiokcdjnmfmaa", sum := "9301a15951ea2e3107863478cd3a0a842213c01065a49b842259ecf4c997af6a", func := "loop.example/g01355/laws.FnExactCountPasch", spec := "fnExactCountPasch", recurses := true, plainKeys := false, apart := false }
def FnExactCountPaschSaid : Prop := fnExactCountPaschRow.holds Try.pinned (OpenSpec.ofChange fnExactCountPaschSpec)

/-- ITS FALSE NEIGHBOUR: 'it returns false'. Refute it at one input. -/
def fnExactCountPaschWrong : ChangeSpec := { name := "fnExactCountPasch", fn := fun _ => fun
  | [d] => { results := [.lit (.bool false)], args := [d] }
  | _ => none }
def FnExactCountPaschWrongFalsely : Prop := fnExactCountPaschRow.holds Try.pinned (OpenSpec.ofChange fnExactCountPaschWrong)

/-- 'laws.FnExactMitreList': WHATEVER THE INPUT: true; the input reads as it did. -/
def fnExactMitreListSpec : ChangeSpec := { name := "fnExactMitreList", fn := fun _ => fun
  | [d] => { results := [.lit (.bool true)], args := [d] }
  | _ => none }
def fnExactMitreListRow : OpenClaim := { program := "ytlhiokcdjnmfmaa", sum := "9301a15951ea2e3107863478cd3a0a842213c01065a49b842259ecf4c997af6a", func := "loop.example/g01355/laws.FnExactMitreList", spec := "fnExactMitreList", unfollowed := true, recurses := true, plainKeys := false, apart := false }
def FnExactMitreListSaid : Prop := fnExactMitreListRow.holds Try.pinned (OpenSpec.ofChange fnExactMitreListSpec)

/-- ITS FALSE NEIGHBOUR: 'it returns false'. Refute it at one input. -/
def fnExactMitreListWrong : ChangeSpec := { name := "fnExactMitreList", fn := fun _ => fun
  | [d] => { results := [.lit (.bool false)], args := [d] }
  | _ => none }
def FnExactMitreListWrongFalsely : Prop := fnExactMitreListRow.holds Try.pinned (OpenSpec.ofChange fnExactMitreListWrong)

/-- 'laws.FnExactCountMitres': WHATEVER THE INPUT: true; the input reads as it did. -/
def fnExactCountMitresSpec : ChangeSpec := { name := "fnExactCountMitres", fn := fun _ => fun
  | [d] => { results := [.lit (.bool true)], args := [d] }
  | _ => none }
def fnExactCountMitresRow : OpenClaim := { program := "ytlhiokcdjnmfmaa", sum := "9301a15951ea2e3107863478cd3a0a842213c01065a49b842259ecf4c997af6a", func := "loop.example/g01355/laws.FnExactCountMitres", spec := "fnExactCountMitres", unfollowed := true, recurses := true, plainKeys := false, apart := false }
def FnExactCountMitresSaid : Prop := fnExactCountMitresRow.holds Try.pinned (OpenSpec.ofChange fnExactCountMitresSpec)

/-- ITS FALSE NEIGHBOUR: 'it returns false'. Refute it at one input. -/
def fnExactCountMitresWrong : ChangeSpec := { name := "fnExactCountMitres", fn := fun _ => fun
  | [d] => { results := [.lit (.bool false)], args := [d] }
  | _ => none }
def FnExactCountMitresWrongFalsely : Prop := fnExactCountMitresRow.holds Try.pinned (OpenSpec.ofChange fnExactCountMitresWrong)

/-- 'laws.FnExactMitreCentres': WHATEVER THE INPUT: true; the input reads as it did. -/
def fnExactMitreCentresSpec : ChangeSpec := { name := "fnExactMitreCentres", fn := fun _ => fun
  | [d] => { results := [.lit (.bool true)], args := [d] }
  | _ => none }
def fnExactMitreCentresRow : OpenClaim := { program := "ytlhiokcdjnmfmaa", sum := "9301a15951ea2e3107863478cd3a0a842213c01065a49b842259ecf4c997af6a", func := "loop.example/g01355/laws.FnExactMitreCentres", spec := "fnExactMitreCentres", unfollowed := true, recurses := true, plainKeys := false, apart := false }
def FnExactMitreCentresSaid : Prop := fnExactMitreCentresRow.holds Try.pinned (OpenSpec.ofChange fnExactMitreCentresSpec)

/-- ITS FALSE NEIGHBOUR: 'it returns false'. Refute it at one input. -/
def fnExactMitreCentresWrong : ChangeSpec := { name := "fnExactMitreCentres", fn := fun _ => fun
  | [d] => { results := [.lit (.bool false)], args := [d] }
  | _ => none }
def FnExactMitreCentresWrongFalsely : Prop := fnExactMitreCentresRow.holds Try.pinned (OpenSpec.ofChange fnExactMitreCentresWrong)

/-- 'laws.FnExactPaschAtPoints': WHATEVER THE INPUT: true; the input reads as it did. -/
def fnExactPaschAtPointsSpec : ChangeSpec := { name := "fnExactPaschAtPoints", fn := fun _ => fun
  | [d] => { results := [.lit (.bool true)], args := [d] }
  | _ => none }
def fnExactPaschAtPointsRow : OpenClaim := { program := "ytlhiokcdjnmfmaa", sum := "9301a15951ea2e3107863478cd3a0a842213c01065a49b842259ecf4c997af6a", func := "loop.example/g01355/laws.FnExactPaschAtPoints", spec := "fnExactPaschAtPoints", recurses := true, plainKeys := false, apart := false }
def FnExactPaschAtPointsSaid : Prop := fnExactPaschAtPointsRow.holds Try.pinned (OpenSpec.ofChange fnExactPaschAtPointsSpec)

/-- ITS FALSE NEIGHBOUR: 'it returns false'. Refute it at one input. -/
def fnExactPaschAtPointsWrong : ChangeSpec := { name := "fnExactPaschAtPoints", fn := fun _ => fun
  | [d] => { results := [.lit (.bool false)], args := [d] }
  | _ => none }
def FnExactPaschAtPointsWrongFalsely : Prop := fnExactPaschAtPointsRow.holds Try.pinned (OpenSpec.ofChange fnExactPaschAtPointsWrong)

/-- 'laws.FnExactPaschTrades': WHATEVER THE INPUT: true; the input reads as it did. -/
def fnExactPaschTradesSpec : ChangeSpec := { name := "fnExactPaschTrades", fn := fun _ => fun
  | [d] => { results := [.lit (.bool true)], args := [d] }
  | _ => none }
def fnExactPaschTradesRow : OpenClaim := { program := "ytlhiokcdjnmfmaa", sum := "9301a15951ea2e3107863478cd3a0a842213c01065a49b842259ecf4c997af6a", func := "loop.example/g01355/laws.FnExactPaschTrades", spec := "fnExactPaschTrades", unfollowed := true, recurses := true, plainKeys := false, apart := false }
def FnExactPaschTradesSaid : Prop := fnExactPaschTradesRow.holds Try.pinned (OpenSpec.ofChange fnExactPaschTradesSpec)

/-- ITS FALSE NEIGHBOUR: 'it returns false'. Refute it at one input. -/
def fnExactPaschTradesWrong : ChangeSpec := { name := "fnExactPaschTrades", fn := fun _ => fun
  | [d] => { results := [.lit (.bool false)], args := [d] }
  | _ => none }
def FnExactPaschTradesWrongFalsely : Prop := fnExactPaschTradesRow.holds Try.pinned (OpenSpec.ofChange fnExactPaschTradesWrong)

/-- 'laws.FnExactCycleTrade': WHATEVER THE INPUT: true; the input reads as it did. -/
def fnExactCycleTradeSpec : ChangeSpec := { name := "fnExactCycleTrade", fn := fun _ => fun
  | [d1, d2, d3, d4] => { results := [.lit (.bool true)], args := [d1, d2, d3, d4] }
  | _ => none }
def fnExactCycleTradeRow : OpenClaim := { program := "ytlhiokcdjnmfmaa", sum := "9301a15951ea2e3107863478cd3a0a842213c01065a49b842259ecf4c997af6a", func := "loop.example/g01355/laws.FnExactCycleTrade", spec := "fnExactCycleTrade", unfollowed := true, recurses := true, plainKeys := false, apart := false }
def FnExactCycleTradeSaid : Prop := fnExactCycleTradeRow.holds Try.pinned (OpenSpec.ofChange fnExactCycleTradeSpec)

/-- ITS FALSE NEIGHBOUR: 'it returns false'. Refute it at one input. -/
def fnExactCycleTradeWrong : ChangeSpec := { name := "fnExactCycleTrade", fn := fun _ => fun
  | [d1, d2, d3, d4] => { results := [.lit (.bool false)], args := [d1, d2, d3, d4] }
  | _ => none }
def FnExactCycleTradeWrongFalsely : Prop := fnExactCycleTradeRow.holds Try.pinned (OpenSpec.ofChange fnExactCycleTradeWrong)

/- THE SECOND FORM. 'bulk': how many values and letters a reading holds, each counted each time it is reached (what is shared counts as often as it is met; a slice's spare places count too). A statement '..UptoSaid' is the law's where the arguments, and the package variables that the reading takes, are together of bulk at most 1048576: NARROWER than '..Said'. Prove '..Said' where nothing that the law and all that it calls make is longer than what came in: it says more and counts as full. Else prove '..UptoSaid'. A law counts once. -/
mutual
def uptoBulk {H : Type} : DataW H → Nat
  | .lit (.string bytes) => bytes.length + 1
  | .lit _ => 1
  | .nil => 1
  | .ptr d => uptoBulk d + 1
  | .slice elems spare => uptoBulkAll elems + uptoBulkAll spare + 1
  | .agg parts => uptoBulkAll parts + 1
  | .iface _ d => uptoBulk d + 1
  | .map entries => uptoBulkEntries entries + 1
  | .held _ => 1
def uptoBulkAll {H : Type} : List (DataW H) → Nat
  | [] => 0
  | d :: r => uptoBulk d + uptoBulkAll r
def uptoBulkEntries {H : Type} : List (Lit × DataW H) → Nat
  | [] => 0
  | x :: r => uptoBulkEntry x + uptoBulkEntries r
def uptoBulkEntry {H : Type} : Lit × DataW H → Nat
  | (.string bytes, d) => bytes.length + uptoBulk d + 1
  | (_, d) => uptoBulk d + 1
 end
def uptoSmall : (H : Type) → List (DataW H) → Bool := fun _ ds => decide (uptoBulkAll ds ≤ 1048576)
def OpenSpec.upto (s : _root_.Go.ChangeSpec) : _root_.Go.OpenSpec := { _root_.Go.OpenSpec.ofChange s with cond := some uptoSmall }

/-- 'laws.FnExactDegreesOf', WHERE WHAT IT READS IS OF BULK AT MOST 1048576: true; the input reads as it did. -/
def fnExactDegreesOfUptoRow : OpenClaim := { program := "ytlhiokcdjnmfmaa", sum := "9301a15951ea2e3107863478cd3a0a842213c01065a49b842259ecf4c997af6a", func := "loop.example/g01355/laws.FnExactDegreesOf", spec := "fnExactDegreesOf", unfollowed := true, recurses := true, plainKeys := false, apart := false, narrowed := true }
def FnExactDegreesOfUptoSaid : Prop := fnExactDegreesOfUptoRow.holds Try.pinned (OpenSpec.upto fnExactDegreesOfSpec)

/-- 'laws.FnExactThreefoldSystem', WHERE WHAT IT READS IS OF BULK AT MOST 1048576: true; the input reads as it did. -/
def fnExactThreefoldSystemUptoRow : OpenClaim := { program := "ytlhiokcdjnmfmaa", sum := "9301a15951ea2e3107863478cd3a0a842213c01065a49b842259ecf4c997af6a", func := "loop.example/g01355/laws.FnExactThreefoldSystem", spec := "fnExactThreefoldSystem", unfollowed := true, recurses := true, plainKeys := false, apart := false, narrowed := true }
def FnExactThreefoldSystemUptoSaid : Prop := fnExactThreefoldSystemUptoRow.holds Try.pinned (OpenSpec.upto fnExactThreefoldSystemSpec)

/-- 'laws.FnExactIsDifferenceFamily', WHERE WHAT IT READS IS OF BULK AT MOST 1048576: true; the input reads as it did. -/
def fnExactIsDifferenceFamilyUptoRow : OpenClaim := { program := "ytlhiokcdjnmfmaa", sum := "9301a15951ea2e3107863478cd3a0a842213c01065a49b842259ecf4c997af6a", func := "loop.example/g01355/laws.FnExactIsDifferenceFamily", spec := "fnExactIsDifferenceFamily", recurses := true, plainKeys := false, apart := false, narrowed := true }
def FnExactIsDifferenceFamilyUptoSaid : Prop := fnExactIsDifferenceFamilyUptoRow.holds Try.pinned (OpenSpec.upto fnExactIsDifferenceFamilySpec)

/-- 'laws.FnExactCyclicSystem', WHERE WHAT IT READS IS OF BULK AT MOST 1048576: true; the input reads as it did. -/
def fnExactCyclicSystemUptoRow : OpenClaim := { program := "ytlhiokcdjnmfmaa", sum := "9301a15951ea2e3107863478cd3a0a842213c01065a49b842259ecf4c997af6a", func := "loop.example/g01355/laws.FnExactCyclicSystem", spec := "fnExactCyclicSystem", unfollowed := true, recurses := true, plainKeys := false, apart := false, narrowed := true }
def FnExactCyclicSystemUptoSaid : Prop := fnExactCyclicSystemUptoRow.holds Try.pinned (OpenSpec.upto fnExactCyclicSystemSpec)

/-- 'laws.FnExactPaschList', WHERE WHAT IT READS IS OF BULK AT MOST 1048576: true; the input reads as it did. -/
def fnExactPaschListUptoRow : OpenClaim := { program := "ytlhiokcdjnmfmaa", sum := "9301a15951ea2e3107863478cd3a0a842213c01065a49b842259ecf4c997af6a", func := "loop.example/g01355/laws.FnExactPaschList", spec := "fnExactPaschList", recurses := true, plainKeys := false, apart := false, narrowed := true }
def FnExactPaschListUptoSaid : Prop := fnExactPaschListUptoRow.holds Try.pinned (OpenSpec.upto fnExactPaschListSpec)

/-- 'laws.FnExactCountPasch', WHERE WHAT IT READS IS OF BULK AT MOST 1048576: true; the input reads as it did. -/
def fnExactCountPaschUptoRow : OpenClaim := { program := "ytlhiokcdjnmfmaa", sum := "9301a15951ea2e3107863478cd3a0a842213c01065a49b842259ecf4c997af6a", func := "loop.example/g01355/laws.FnExactCountPasch", spec := "fnExactCountPasch", recurses := true, plainKeys := false, apart := false, narrowed := true }
def FnExactCountPaschUptoSaid : Prop := fnExactCountPaschUptoRow.holds Try.pinned (OpenSpec.upto fnExactCountPaschSpec)

/-- 'laws.FnExactMitreList', WHERE WHAT IT READS IS OF BULK AT MOST 1048576: true; the input reads as it did. -/
def fnExactMitreListUptoRow : OpenClaim := { program := "ytlhiokcdjnmfmaa", sum := "9301a15951ea2e3107863478cd3a0a842213c01065a49b842259ecf4c997af6a", func := "loop.example/g01355/laws.FnExactMitreList", spec := "fnExactMitreList", unfollowed := true, recurses := true, plainKeys := false, apart := false, narrowed := true }
def FnExactMitreListUptoSaid : Prop := fnExactMitreListUptoRow.holds Try.pinned (OpenSpec.upto fnExactMitreListSpec)

/-- 'laws.FnExactCountMitres', WHERE WHAT IT READS IS OF BULK AT MOST 1048576: true; the input reads as it did. -/
def fnExactCountMitresUptoRow : OpenClaim := { program := "ytlhiokcdjnmfmaa", sum := "9301a15951ea2e3107863478cd3a0a842213c01065a49b842259ecf4c997af6a", func := "loop.example/g01355/laws.FnExactCountMitres", spec := "fnExactCountMitres", unfollowed := true, recurses := true, plainKeys := false, apart := false, narrowed := true }
def FnExactCountMitresUptoSaid : Prop := fnExactCountMitresUptoRow.holds Try.pinned (OpenSpec.upto fnExactCountMitresSpec)

/-- 'laws.FnExactMitreCentres', WHERE WHAT IT READS IS OF BULK AT MOST 1048576: true; the input reads as it did. -/
def fnExactMitreCentresUptoRow : OpenClaim := { program := "ytlhiokcdjnmfmaa", sum := "9301a15951ea2e3107863478cd3a0a842213c01065a49b842259ecf4c997af6a", func := "loop.example/g01355/laws.FnExactMitreCentres", spec := "fnExactMitreCentres", unfollowed := true, recurses := true, plainKeys := false, apart := false, narrowed := true }
def FnExactMitreCentresUptoSaid : Prop := fnExactMitreCentresUptoRow.holds Try.pinned (OpenSpec.upto fnExactMitreCentresSpec)

/-- 'laws.FnExactPaschAtPoints', WHERE WHAT IT READS IS OF BULK AT MOST 1048576: true; the input reads as it did. -/
def fnExactPaschAtPointsUptoRow : OpenClaim := { program := "ytlhiokcdjnmfmaa", sum := "9301a15951ea2e3107863478cd3a0a842213c01065a49b842259ecf4c997af6a", func := "loop.example/g01355/laws.FnExactPaschAtPoints", spec := "fnExactPaschAtPoints", recurses := true, plainKeys := false, apart := false, narrowed := true }
def FnExactPaschAtPointsUptoSaid : Prop := fnExactPaschAtPointsUptoRow.holds Try.pinned (OpenSpec.upto fnExactPaschAtPointsSpec)

/-- 'laws.FnExactPaschTrades', WHERE WHAT IT READS IS OF BULK AT MOST 1048576: true; the input reads as it did. -/
def fnExactPaschTradesUptoRow : OpenClaim := { program := "ytlhiokcdjnmfmaa", sum := "9301a15951ea2e3107863478cd3a0a842213c01065a49b842259ecf4c997af6a", func := "loop.example/g01355/laws.FnExactPaschTrades", spec := "fnExactPaschTrades", unfollowed := true, recurses := true, plainKeys := false, apart := false, narrowed := true }
def FnExactPaschTradesUptoSaid : Prop := fnExactPaschTradesUptoRow.holds Try.pinned (OpenSpec.upto fnExactPaschTradesSpec)

/-- 'laws.FnExactCycleTrade', WHERE WHAT IT READS IS OF BULK AT MOST 1048576: true; the input reads as it did. -/
def fnExactCycleTradeUptoRow : OpenClaim := { program := "ytlhiokcdjnmfmaa", sum := "9301a15951ea2e3107863478cd3a0a842213c01065a49b842259ecf4c997af6a", func := "loop.example/g01355/laws.FnExactCycleTrade", spec := "fnExactCycleTrade", unfollowed := true, recurses := true, plainKeys := false, apart := false, narrowed := true }
def FnExactCycleTradeUptoSaid : Prop := fnExactCycleTradeUptoRow.holds Try.pinned (OpenSpec.upto fnExactCycleTradeSpec)

end Rows
end Go.Proofs.Ytlhiokcdjnmfmaa

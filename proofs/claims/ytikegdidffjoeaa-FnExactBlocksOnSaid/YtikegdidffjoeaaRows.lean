/-
  No cell of these rows narrows 'for every input' (looked for: loops, veiled, ifaces, maps, wideKeys, modest, calm, conditions, laid).
  DERIVED. THE GIVEN ROWS OF THIS SEAT. 23 by the template 'for every input the law returns true; each argument reads behind the call as it read before'; 0 by the template 'total and deterministic' (their statements: YtikegdidffjoeaaTotals.lean).
  GIVEN WITH THE SEED: the statements are not yours to turn. If you find one false, say at which input.
  Laid BY PROGRAM, IN A SANDBOX (cutbox-rows.mjs): the forced cells as the released guide's own fill.sh prints them over the translation faf0d397831f2de2… (all of the seat's roots in one cut). By AI agents, Wed Nov 11 2026. No macro, syntax, notation, axiom, sorry.
-/
import Derived.Test.YtikegdidffjoeaaChecked
import GoSem.Claim
import GoSem.ClaimJoined
import GoSem.ClaimMapViews
import Derived.JoinedTies
import Derived.KernelRfl
namespace Go.Proofs.Ytikegdidffjoeaa
/- THE CELL 'sum', in the pinned program and in every row, IS THE sha256 OF THE DUMP (.gsa) THAT YtikegdidffjoeaaProg.lean LOADS. Nothing in Lean hashes anything: it is a label: what it is worth is what the hold of that sum in a sandbox is worth. -/
noncomputable def Try.pinned : Pinned := { name := "ytikegdidffjoeaa", sum := "faf0d397831f2de2f7cc0759ab2af5011b9bde646f6b72361a2b62227cc9073a", checked := Try.checked }
namespace Rows
def none {H : Type} : Left H := { results := [], args := [] }

/-- 'laws.FnExactSystemOf': WHATEVER THE INPUT: true; the input reads as it did. -/
def fnExactSystemOfSpec : ChangeSpec := { name := "fnExactSystemOf", fn := fun _ => fun
  | [d1, d2] => { results := [.lit (.bool true)], args := [d1, d2] }
  | _ => none }
def fnExactSystemOfRow : OpenClaim := { program := "ytikegdidffjoeaa", sum := "faf0d397831f2de2f7cc0759ab2af5011b9bde646f6b72361a2b62227cc9073a", func := "loop.example/g01355/laws.FnExactSystemOf", spec := "fnExactSystemOf", unfollowed := true, recurses := true, plainKeys := false, apart := false }
def FnExactSystemOfSaid : Prop := fnExactSystemOfRow.holds Try.pinned (OpenSpec.ofChange fnExactSystemOfSpec)

/-- ITS FALSE NEIGHBOUR: 'it returns false'. Refute it at one input. -/
def fnExactSystemOfWrong : ChangeSpec := { name := "fnExactSystemOf", fn := fun _ => fun
  | [d1, d2] => { results := [.lit (.bool false)], args := [d1, d2] }
  | _ => none }
def FnExactSystemOfWrongFalsely : Prop := fnExactSystemOfRow.holds Try.pinned (OpenSpec.ofChange fnExactSystemOfWrong)

/-- 'laws.FnExactThirdPoint': WHATEVER THE INPUT: true; the input reads as it did. -/
def fnExactThirdPointSpec : ChangeSpec := { name := "fnExactThirdPoint", fn := fun _ => fun
  | [d1, d2, d3] => { results := [.lit (.bool true)], args := [d1, d2, d3] }
  | _ => none }
def fnExactThirdPointRow : OpenClaim := { program := "ytikegdidffjoeaa", sum := "faf0d397831f2de2f7cc0759ab2af5011b9bde646f6b72361a2b62227cc9073a", func := "loop.example/g01355/laws.FnExactThirdPoint", spec := "fnExactThirdPoint", unfollowed := true, recurses := true, plainKeys := false, apart := false }
def FnExactThirdPointSaid : Prop := fnExactThirdPointRow.holds Try.pinned (OpenSpec.ofChange fnExactThirdPointSpec)

/-- ITS FALSE NEIGHBOUR: 'it returns false'. Refute it at one input. -/
def fnExactThirdPointWrong : ChangeSpec := { name := "fnExactThirdPoint", fn := fun _ => fun
  | [d1, d2, d3] => { results := [.lit (.bool false)], args := [d1, d2, d3] }
  | _ => none }
def FnExactThirdPointWrongFalsely : Prop := fnExactThirdPointRow.holds Try.pinned (OpenSpec.ofChange fnExactThirdPointWrong)

/-- 'laws.FnExactDegreesOf': WHATEVER THE INPUT: true; the input reads as it did. -/
def fnExactDegreesOfSpec : ChangeSpec := { name := "fnExactDegreesOf", fn := fun _ => fun
  | [d] => { results := [.lit (.bool true)], args := [d] }
  | _ => none }
def fnExactDegreesOfRow : OpenClaim := { program := "ytikegdidffjoeaa", sum := "faf0d397831f2de2f7cc0759ab2af5011b9bde646f6b72361a2b62227cc9073a", func := "loop.example/g01355/laws.FnExactDegreesOf", spec := "fnExactDegreesOf", unfollowed := true, recurses := true, plainKeys := false, apart := false }
def FnExactDegreesOfSaid : Prop := fnExactDegreesOfRow.holds Try.pinned (OpenSpec.ofChange fnExactDegreesOfSpec)

/-- ITS FALSE NEIGHBOUR: 'it returns false'. Refute it at one input. -/
def fnExactDegreesOfWrong : ChangeSpec := { name := "fnExactDegreesOf", fn := fun _ => fun
  | [d] => { results := [.lit (.bool false)], args := [d] }
  | _ => none }
def FnExactDegreesOfWrongFalsely : Prop := fnExactDegreesOfRow.holds Try.pinned (OpenSpec.ofChange fnExactDegreesOfWrong)

/-- 'laws.FnExactPutBlock': WHATEVER THE INPUT: true; the input reads as it did. -/
def fnExactPutBlockSpec : ChangeSpec := { name := "fnExactPutBlock", fn := fun _ => fun
  | [d1, d2] => { results := [.lit (.bool true)], args := [d1, d2] }
  | _ => none }
def fnExactPutBlockRow : OpenClaim := { program := "ytikegdidffjoeaa", sum := "faf0d397831f2de2f7cc0759ab2af5011b9bde646f6b72361a2b62227cc9073a", func := "loop.example/g01355/laws.FnExactPutBlock", spec := "fnExactPutBlock", unfollowed := true, recurses := true, plainKeys := false, apart := false }
def FnExactPutBlockSaid : Prop := fnExactPutBlockRow.holds Try.pinned (OpenSpec.ofChange fnExactPutBlockSpec)

/-- ITS FALSE NEIGHBOUR: 'it returns false'. Refute it at one input. -/
def fnExactPutBlockWrong : ChangeSpec := { name := "fnExactPutBlock", fn := fun _ => fun
  | [d1, d2] => { results := [.lit (.bool false)], args := [d1, d2] }
  | _ => none }
def FnExactPutBlockWrongFalsely : Prop := fnExactPutBlockRow.holds Try.pinned (OpenSpec.ofChange fnExactPutBlockWrong)

/-- 'laws.FnExactBlocksOn': WHATEVER THE INPUT: true; the input reads as it did. -/
def fnExactBlocksOnSpec : ChangeSpec := { name := "fnExactBlocksOn", fn := fun _ => fun
  | [d1, d2] => { results := [.lit (.bool true)], args := [d1, d2] }
  | _ => none }
def fnExactBlocksOnRow : OpenClaim := { program := "ytikegdidffjoeaa", sum := "faf0d397831f2de2f7cc0759ab2af5011b9bde646f6b72361a2b62227cc9073a", func := "loop.example/g01355/laws.FnExactBlocksOn", spec := "fnExactBlocksOn", plainKeys := false, apart := false }
def FnExactBlocksOnSaid : Prop := fnExactBlocksOnRow.holds Try.pinned (OpenSpec.ofChange fnExactBlocksOnSpec)

/-- ITS FALSE NEIGHBOUR: 'it returns false'. Refute it at one input. -/
def fnExactBlocksOnWrong : ChangeSpec := { name := "fnExactBlocksOn", fn := fun _ => fun
  | [d1, d2] => { results := [.lit (.bool false)], args := [d1, d2] }
  | _ => none }
def FnExactBlocksOnWrongFalsely : Prop := fnExactBlocksOnRow.holds Try.pinned (OpenSpec.ofChange fnExactBlocksOnWrong)

/-- 'laws.FnExactRenumberSystem': WHATEVER THE INPUT: true; the input reads as it did. -/
def fnExactRenumberSystemSpec : ChangeSpec := { name := "fnExactRenumberSystem", fn := fun _ => fun
  | [d1, d2] => { results := [.lit (.bool true)], args := [d1, d2] }
  | _ => none }
def fnExactRenumberSystemRow : OpenClaim := { program := "ytikegdidffjoeaa", sum := "faf0d397831f2de2f7cc0759ab2af5011b9bde646f6b72361a2b62227cc9073a", func := "loop.example/g01355/laws.FnExactRenumberSystem", spec := "fnExactRenumberSystem", unfollowed := true, recurses := true, plainKeys := false, apart := false }
def FnExactRenumberSystemSaid : Prop := fnExactRenumberSystemRow.holds Try.pinned (OpenSpec.ofChange fnExactRenumberSystemSpec)

/-- ITS FALSE NEIGHBOUR: 'it returns false'. Refute it at one input. -/
def fnExactRenumberSystemWrong : ChangeSpec := { name := "fnExactRenumberSystem", fn := fun _ => fun
  | [d1, d2] => { results := [.lit (.bool false)], args := [d1, d2] }
  | _ => none }
def FnExactRenumberSystemWrongFalsely : Prop := fnExactRenumberSystemRow.holds Try.pinned (OpenSpec.ofChange fnExactRenumberSystemWrong)

/-- 'laws.FnExactNamedSystem': WHATEVER THE INPUT: true; the input reads as it did. -/
def fnExactNamedSystemSpec : ChangeSpec := { name := "fnExactNamedSystem", fn := fun _ => fun
  | [d] => { results := [.lit (.bool true)], args := [d] }
  | _ => none }
def fnExactNamedSystemRow : OpenClaim := { program := "ytikegdidffjoeaa", sum := "faf0d397831f2de2f7cc0759ab2af5011b9bde646f6b72361a2b62227cc9073a", func := "loop.example/g01355/laws.FnExactNamedSystem", spec := "fnExactNamedSystem", unfollowed := true, recurses := true, plainKeys := false, apart := false }
def FnExactNamedSystemSaid : Prop := fnExactNamedSystemRow.holds Try.pinned (OpenSpec.ofChange fnExactNamedSystemSpec)

/-- ITS FALSE NEIGHBOUR: 'it returns false'. Refute it at one input. -/
def fnExactNamedSystemWrong : ChangeSpec := { name := "fnExactNamedSystem", fn := fun _ => fun
  | [d] => { results := [.lit (.bool false)], args := [d] }
  | _ => none }
def FnExactNamedSystemWrongFalsely : Prop := fnExactNamedSystemRow.holds Try.pinned (OpenSpec.ofChange fnExactNamedSystemWrong)

/-- 'laws.FnExactIsSquare': WHATEVER THE INPUT: true; the input reads as it did. -/
def fnExactIsSquareSpec : ChangeSpec := { name := "fnExactIsSquare", fn := fun _ => fun
  | [d] => { results := [.lit (.bool true)], args := [d] }
  | _ => none }
def fnExactIsSquareRow : OpenClaim := { program := "ytikegdidffjoeaa", sum := "faf0d397831f2de2f7cc0759ab2af5011b9bde646f6b72361a2b62227cc9073a", func := "loop.example/g01355/laws.FnExactIsSquare", spec := "fnExactIsSquare", unfollowed := true, recurses := true, plainKeys := false, apart := false }
def FnExactIsSquareSaid : Prop := fnExactIsSquareRow.holds Try.pinned (OpenSpec.ofChange fnExactIsSquareSpec)

/-- ITS FALSE NEIGHBOUR: 'it returns false'. Refute it at one input. -/
def fnExactIsSquareWrong : ChangeSpec := { name := "fnExactIsSquare", fn := fun _ => fun
  | [d] => { results := [.lit (.bool false)], args := [d] }
  | _ => none }
def FnExactIsSquareWrongFalsely : Prop := fnExactIsSquareRow.holds Try.pinned (OpenSpec.ofChange fnExactIsSquareWrong)

/-- 'laws.FnExactSquareKinds': WHATEVER THE INPUT: true; the input reads as it did. -/
def fnExactSquareKindsSpec : ChangeSpec := { name := "fnExactSquareKinds", fn := fun _ => fun
  | [d] => { results := [.lit (.bool true)], args := [d] }
  | _ => none }
def fnExactSquareKindsRow : OpenClaim := { program := "ytikegdidffjoeaa", sum := "faf0d397831f2de2f7cc0759ab2af5011b9bde646f6b72361a2b62227cc9073a", func := "loop.example/g01355/laws.FnExactSquareKinds", spec := "fnExactSquareKinds", unfollowed := true, recurses := true, plainKeys := false, apart := false }
def FnExactSquareKindsSaid : Prop := fnExactSquareKindsRow.holds Try.pinned (OpenSpec.ofChange fnExactSquareKindsSpec)

/-- ITS FALSE NEIGHBOUR: 'it returns false'. Refute it at one input. -/
def fnExactSquareKindsWrong : ChangeSpec := { name := "fnExactSquareKinds", fn := fun _ => fun
  | [d] => { results := [.lit (.bool false)], args := [d] }
  | _ => none }
def FnExactSquareKindsWrongFalsely : Prop := fnExactSquareKindsRow.holds Try.pinned (OpenSpec.ofChange fnExactSquareKindsWrong)

/-- 'laws.FnExactThreefoldSystem': WHATEVER THE INPUT: true; the input reads as it did. -/
def fnExactThreefoldSystemSpec : ChangeSpec := { name := "fnExactThreefoldSystem", fn := fun _ => fun
  | [d] => { results := [.lit (.bool true)], args := [d] }
  | _ => none }
def fnExactThreefoldSystemRow : OpenClaim := { program := "ytikegdidffjoeaa", sum := "faf0d397831f2de2f7cc0759ab2af5011b9bde646f6b72361a2b62227cc9073a", func := "loop.example/g01355/laws.FnExactThreefoldSystem", spec := "fnExactThreefoldSystem", unfollowed := true, recurses := true, plainKeys := false, apart := false }
def FnExactThreefoldSystemSaid : Prop := fnExactThreefoldSystemRow.holds Try.pinned (OpenSpec.ofChange fnExactThreefoldSystemSpec)

/-- ITS FALSE NEIGHBOUR: 'it returns false'. Refute it at one input. -/
def fnExactThreefoldSystemWrong : ChangeSpec := { name := "fnExactThreefoldSystem", fn := fun _ => fun
  | [d] => { results := [.lit (.bool false)], args := [d] }
  | _ => none }
def FnExactThreefoldSystemWrongFalsely : Prop := fnExactThreefoldSystemRow.holds Try.pinned (OpenSpec.ofChange fnExactThreefoldSystemWrong)

/-- 'laws.FnExactIsDifferenceFamily': WHATEVER THE INPUT: true; the input reads as it did. -/
def fnExactIsDifferenceFamilySpec : ChangeSpec := { name := "fnExactIsDifferenceFamily", fn := fun _ => fun
  | [d1, d2] => { results := [.lit (.bool true)], args := [d1, d2] }
  | _ => none }
def fnExactIsDifferenceFamilyRow : OpenClaim := { program := "ytikegdidffjoeaa", sum := "faf0d397831f2de2f7cc0759ab2af5011b9bde646f6b72361a2b62227cc9073a", func := "loop.example/g01355/laws.FnExactIsDifferenceFamily", spec := "fnExactIsDifferenceFamily", recurses := true, plainKeys := false, apart := false }
def FnExactIsDifferenceFamilySaid : Prop := fnExactIsDifferenceFamilyRow.holds Try.pinned (OpenSpec.ofChange fnExactIsDifferenceFamilySpec)

/-- ITS FALSE NEIGHBOUR: 'it returns false'. Refute it at one input. -/
def fnExactIsDifferenceFamilyWrong : ChangeSpec := { name := "fnExactIsDifferenceFamily", fn := fun _ => fun
  | [d1, d2] => { results := [.lit (.bool false)], args := [d1, d2] }
  | _ => none }
def FnExactIsDifferenceFamilyWrongFalsely : Prop := fnExactIsDifferenceFamilyRow.holds Try.pinned (OpenSpec.ofChange fnExactIsDifferenceFamilyWrong)

/-- 'laws.FnExactCyclicSystem': WHATEVER THE INPUT: true; the input reads as it did. -/
def fnExactCyclicSystemSpec : ChangeSpec := { name := "fnExactCyclicSystem", fn := fun _ => fun
  | [d1, d2] => { results := [.lit (.bool true)], args := [d1, d2] }
  | _ => none }
def fnExactCyclicSystemRow : OpenClaim := { program := "ytikegdidffjoeaa", sum := "faf0d397831f2de2f7cc0759ab2af5011b9bde646f6b72361a2b62227cc9073a", func := "loop.example/g01355/laws.FnExactCyclicSystem", spec := "fnExactCyclicSystem", unfollowed := true, recurses := true, plainKeys := false, apart := false }
def FnExactCyclicSystemSaid : Prop := fnExactCyclicSystemRow.holds Try.pinned (OpenSpec.ofChange fnExactCyclicSystemSpec)

/-- ITS FALSE NEIGHBOUR: 'it returns false'. Refute it at one input. -/
def fnExactCyclicSystemWrong : ChangeSpec := { name := "fnExactCyclicSystem", fn := fun _ => fun
  | [d1, d2] => { results := [.lit (.bool false)], args := [d1, d2] }
  | _ => none }
def FnExactCyclicSystemWrongFalsely : Prop := fnExactCyclicSystemRow.holds Try.pinned (OpenSpec.ofChange fnExactCyclicSystemWrong)

/-- 'laws.FnExactPaschList': WHATEVER THE INPUT: true; the input reads as it did. -/
def fnExactPaschListSpec : ChangeSpec := { name := "fnExactPaschList", fn := fun _ => fun
  | [d] => { results := [.lit (.bool true)], args := [d] }
  | _ => none }
def fnExactPaschListRow : OpenClaim := { program := "ytikegdidffjoeaa", sum := "faf0d397831f2de2f7cc0759ab2af5011b9bde646f6b72361a2b62227cc9073a", func := "loop.example/g01355/laws.FnExactPaschList", spec := "fnExactPaschList", recurses := true, plainKeys := false, apart := false }
def FnExactPaschListSaid : Prop := fnExactPaschListRow.holds Try.pinned (OpenSpec.ofChange fnExactPaschListSpec)

/-- ITS FALSE NEIGHBOUR: 'it returns false'. Refute it at one input. -/
def fnExactPaschListWrong : ChangeSpec := { name := "fnExactPaschList", fn := fun _ => fun
  | [d] => { results := [.lit (.bool false)], args := [d] }
  | _ => none }
def FnExactPaschListWrongFalsely : Prop := fnExactPaschListRow.holds Try.pinned (OpenSpec.ofChange fnExactPaschListWrong)

/-- 'laws.FnExactCountPasch': WHATEVER THE INPUT: true; the input reads as it did. -/
def fnExactCountPaschSpec : ChangeSpec := { name := "fnExactCountPasch", fn := fun _ => fun
  | [d] => { results := [.lit (.bool true)], args := [d] }
  | _ => none }
def fnExactCountPaschRow : OpenClaim := { program := "ytikegdidffjoeaa", sum := "faf0d397831f2de2f7cc0759ab2af5011b9bde646f6b72361a2b62227cc9073a", func := "loop.example/g01355/laws.FnExactCountPasch", spec := "fnExactCountPasch", recurses := true, plainKeys := false, apart := false }
def FnExactCountPaschSaid : Prop := fnExactCountPaschRow.holds Try.pinned (OpenSpec.ofChange fnExactCountPaschSpec)

/-- ITS FALSE NEIGHBOUR: 'it returns false'. Refute it at one input. -/
def fnExactCountPaschWrong : ChangeSpec := { name := "fnExactCountPasch", fn := fun _ => fun
  | [d] => { results := [.lit (.bool false)], args := [d] }
  | _ => none }
def FnExactCountPaschWrongFalsely : Prop := fnExactCountPaschRow.holds Try.pinned (OpenSpec.ofChange fnExactCountPaschWrong)

/-- 'laws.FnExactMitreList': WHATEVER THE INPUT: true; the input reads as it did. -/
def fnExactMitreListSpec : ChangeSpec := { name := "fnExactMitreList", fn := fun _ => fun
  | [d] => { results := [.lit (.bool true)], args := [d] }
  | _ => none }
def fnExactMitreListRow : OpenClaim := { program := "ytikegdidffjoeaa", sum := "faf0d397831f2de2f7cc0759ab2af5011b9bde646f6b72361a2b62227cc9073a", func := "loop.example/g01355/laws.FnExactMitreList", spec := "fnExactMitreList", unfollowed := true, recurses := true, plainKeys := false, apart := false }
def FnExactMitreListSaid : Prop := fnExactMitreListRow.holds Try.pinned (OpenSpec.ofChange fnExactMitreListSpec)

/-- ITS FALSE NEIGHBOUR: 'it returns false'. Refute it at one input. -/
def fnExactMitreListWrong : ChangeSpec := { name := "fnExactMitreList", fn := fun _ => fun
  | [d] => { results := [.lit (.bool false)], args := [d] }
  | _ => none }
def FnExactMitreListWrongFalsely : Prop := fnExactMitreListRow.holds Try.pinned (OpenSpec.ofChange fnExactMitreListWrong)

/-- 'laws.FnExactCountMitres': WHATEVER THE INPUT: true; the input reads as it did. -/
def fnExactCountMitresSpec : ChangeSpec := { name := "fnExactCountMitres", fn := fun _ => fun
  | [d] => { results := [.lit (.bool true)], args := [d] }
  | _ => none }
def fnExactCountMitresRow : OpenClaim := { program := "ytikegdidffjoeaa", sum := "faf0d397831f2de2f7cc0759ab2af5011b9bde646f6b72361a2b62227cc9073a", func := "loop.example/g01355/laws.FnExactCountMitres", spec := "fnExactCountMitres", unfollowed := true, recurses := true, plainKeys := false, apart := false }
def FnExactCountMitresSaid : Prop := fnExactCountMitresRow.holds Try.pinned (OpenSpec.ofChange fnExactCountMitresSpec)

/-- ITS FALSE NEIGHBOUR: 'it returns false'. Refute it at one input. -/
def fnExactCountMitresWrong : ChangeSpec := { name := "fnExactCountMitres", fn := fun _ => fun
  | [d] => { results := [.lit (.bool false)], args := [d] }
  | _ => none }
def FnExactCountMitresWrongFalsely : Prop := fnExactCountMitresRow.holds Try.pinned (OpenSpec.ofChange fnExactCountMitresWrong)

/-- 'laws.FnExactMitreCentres': WHATEVER THE INPUT: true; the input reads as it did. -/
def fnExactMitreCentresSpec : ChangeSpec := { name := "fnExactMitreCentres", fn := fun _ => fun
  | [d] => { results := [.lit (.bool true)], args := [d] }
  | _ => none }
def fnExactMitreCentresRow : OpenClaim := { program := "ytikegdidffjoeaa", sum := "faf0d397831f2de2f7cc0759ab2af5011b9bde646f6b72361a2b62227cc9073a", func := "loop.example/g01355/laws.FnExactMitreCentres", spec := "fnExactMitreCentres", unfollowed := true, recurses := true, plainKeys := false, apart := false }
def FnExactMitreCentresSaid : Prop := fnExactMitreCentresRow.holds Try.pinned (OpenSpec.ofChange fnExactMitreCentresSpec)

/-- ITS FALSE NEIGHBOUR: 'it returns false'. Refute it at one input. -/
def fnExactMitreCentresWrong : ChangeSpec := { name := "fnExactMitreCentres", fn := fun _ => fun
  | [d] => { results := [.lit (.bool false)], args := [d] }
  | _ => none }
def FnExactMitreCentresWrongFalsely : Prop := fnExactMitreCentresRow.holds Try.pinned (OpenSpec.ofChange fnExactMitreCentresWrong)

/-- 'laws.FnExactPaschAtPoints': WHATEVER THE INPUT: true; the input reads as it did. -/
def fnExactPaschAtPointsSpec : ChangeSpec := { name := "fnExactPaschAtPoints", fn := fun _ => fun
  | [d] => { results := [.lit (.bool true)], args := [d] }
  | _ => none }
def fnExactPaschAtPointsRow : OpenClaim := { program := "ytikegdidffjoeaa", sum := "faf0d397831f2de2f7cc0759ab2af5011b9bde646f6b72361a2b62227cc9073a", func := "loop.example/g01355/laws.FnExactPaschAtPoints", spec := "fnExactPaschAtPoints", recurses := true, plainKeys := false, apart := false }
def FnExactPaschAtPointsSaid : Prop := fnExactPaschAtPointsRow.holds Try.pinned (OpenSpec.ofChange fnExactPaschAtPointsSpec)

/-- ITS FALSE NEIGHBOUR: 'it returns false'. Refute it at one input. -/
def fnExactPaschAtPointsWrong : ChangeSpec := { name := "fnExactPaschAtPoints", fn := fun _ => fun
  | [d] => { results := [.lit (.bool false)], args := [d] }
  | _ => none }
def FnExactPaschAtPointsWrongFalsely : Prop := fnExactPaschAtPointsRow.holds Try.pinned (OpenSpec.ofChange fnExactPaschAtPointsWrong)

/-- 'laws.FnExactCyclesOf': WHATEVER THE INPUT: true; the input reads as it did. -/
def fnExactCyclesOfSpec : ChangeSpec := { name := "fnExactCyclesOf", fn := fun _ => fun
  | [d1, d2, d3] => { results := [.lit (.bool true)], args := [d1, d2, d3] }
  | _ => none }
def fnExactCyclesOfRow : OpenClaim := { program := "ytikegdidffjoeaa", sum := "faf0d397831f2de2f7cc0759ab2af5011b9bde646f6b72361a2b62227cc9073a", func := "loop.example/g01355/laws.FnExactCyclesOf", spec := "fnExactCyclesOf", plainKeys := false, apart := false }
def FnExactCyclesOfSaid : Prop := fnExactCyclesOfRow.holds Try.pinned (OpenSpec.ofChange fnExactCyclesOfSpec)

/-- ITS FALSE NEIGHBOUR: 'it returns false'. Refute it at one input. -/
def fnExactCyclesOfWrong : ChangeSpec := { name := "fnExactCyclesOf", fn := fun _ => fun
  | [d1, d2, d3] => { results := [.lit (.bool false)], args := [d1, d2, d3] }
  | _ => none }
def FnExactCyclesOfWrongFalsely : Prop := fnExactCyclesOfRow.holds Try.pinned (OpenSpec.ofChange fnExactCyclesOfWrong)

/-- 'laws.FnExactTypeOf': WHATEVER THE INPUT: true; the input reads as it did. -/
def fnExactTypeOfSpec : ChangeSpec := { name := "fnExactTypeOf", fn := fun _ => fun
  | [d1, d2, d3] => { results := [.lit (.bool true)], args := [d1, d2, d3] }
  | _ => none }
def fnExactTypeOfRow : OpenClaim := { program := "ytikegdidffjoeaa", sum := "faf0d397831f2de2f7cc0759ab2af5011b9bde646f6b72361a2b62227cc9073a", func := "loop.example/g01355/laws.FnExactTypeOf", spec := "fnExactTypeOf", recurses := true, plainKeys := false, apart := false }
def FnExactTypeOfSaid : Prop := fnExactTypeOfRow.holds Try.pinned (OpenSpec.ofChange fnExactTypeOfSpec)

/-- ITS FALSE NEIGHBOUR: 'it returns false'. Refute it at one input. -/
def fnExactTypeOfWrong : ChangeSpec := { name := "fnExactTypeOf", fn := fun _ => fun
  | [d1, d2, d3] => { results := [.lit (.bool false)], args := [d1, d2, d3] }
  | _ => none }
def FnExactTypeOfWrongFalsely : Prop := fnExactTypeOfRow.holds Try.pinned (OpenSpec.ofChange fnExactTypeOfWrong)

/-- 'laws.FnExactTypesOf': WHATEVER THE INPUT: true; the input reads as it did. -/
def fnExactTypesOfSpec : ChangeSpec := { name := "fnExactTypesOf", fn := fun _ => fun
  | [d] => { results := [.lit (.bool true)], args := [d] }
  | _ => none }
def fnExactTypesOfRow : OpenClaim := { program := "ytikegdidffjoeaa", sum := "faf0d397831f2de2f7cc0759ab2af5011b9bde646f6b72361a2b62227cc9073a", func := "loop.example/g01355/laws.FnExactTypesOf", spec := "fnExactTypesOf", unfollowed := true, recurses := true, plainKeys := false, apart := false }
def FnExactTypesOfSaid : Prop := fnExactTypesOfRow.holds Try.pinned (OpenSpec.ofChange fnExactTypesOfSpec)

/-- ITS FALSE NEIGHBOUR: 'it returns false'. Refute it at one input. -/
def fnExactTypesOfWrong : ChangeSpec := { name := "fnExactTypesOf", fn := fun _ => fun
  | [d] => { results := [.lit (.bool false)], args := [d] }
  | _ => none }
def FnExactTypesOfWrongFalsely : Prop := fnExactTypesOfRow.holds Try.pinned (OpenSpec.ofChange fnExactTypesOfWrong)

/-- 'laws.FnExactIsUniform': WHATEVER THE INPUT: true; the input reads as it did. -/
def fnExactIsUniformSpec : ChangeSpec := { name := "fnExactIsUniform", fn := fun _ => fun
  | [d] => { results := [.lit (.bool true)], args := [d] }
  | _ => none }
def fnExactIsUniformRow : OpenClaim := { program := "ytikegdidffjoeaa", sum := "faf0d397831f2de2f7cc0759ab2af5011b9bde646f6b72361a2b62227cc9073a", func := "loop.example/g01355/laws.FnExactIsUniform", spec := "fnExactIsUniform", unfollowed := true, recurses := true, plainKeys := false, apart := false }
def FnExactIsUniformSaid : Prop := fnExactIsUniformRow.holds Try.pinned (OpenSpec.ofChange fnExactIsUniformSpec)

/-- ITS FALSE NEIGHBOUR: 'it returns false'. Refute it at one input. -/
def fnExactIsUniformWrong : ChangeSpec := { name := "fnExactIsUniform", fn := fun _ => fun
  | [d] => { results := [.lit (.bool false)], args := [d] }
  | _ => none }
def FnExactIsUniformWrongFalsely : Prop := fnExactIsUniformRow.holds Try.pinned (OpenSpec.ofChange fnExactIsUniformWrong)

/-- 'laws.FnExactIsPerfect': WHATEVER THE INPUT: true; the input reads as it did. -/
def fnExactIsPerfectSpec : ChangeSpec := { name := "fnExactIsPerfect", fn := fun _ => fun
  | [d] => { results := [.lit (.bool true)], args := [d] }
  | _ => none }
def fnExactIsPerfectRow : OpenClaim := { program := "ytikegdidffjoeaa", sum := "faf0d397831f2de2f7cc0759ab2af5011b9bde646f6b72361a2b62227cc9073a", func := "loop.example/g01355/laws.FnExactIsPerfect", spec := "fnExactIsPerfect", unfollowed := true, recurses := true, plainKeys := false, apart := false }
def FnExactIsPerfectSaid : Prop := fnExactIsPerfectRow.holds Try.pinned (OpenSpec.ofChange fnExactIsPerfectSpec)

/-- ITS FALSE NEIGHBOUR: 'it returns false'. Refute it at one input. -/
def fnExactIsPerfectWrong : ChangeSpec := { name := "fnExactIsPerfect", fn := fun _ => fun
  | [d] => { results := [.lit (.bool false)], args := [d] }
  | _ => none }
def FnExactIsPerfectWrongFalsely : Prop := fnExactIsPerfectRow.holds Try.pinned (OpenSpec.ofChange fnExactIsPerfectWrong)

/- THE SECOND FORM. 'bulk': how many values and letters a reading holds, each counted each time it is reached (what is shared counts as often as it is met; a slice's spare places count too). A statement '..UptoSaid' is the law's where the arguments, and the package variables that the reading takes, are together of bulk at most 1048576: NARROWER than '..Said'. Prove '..Said' where nothing that the law and all that it calls make is longer than what came in: it says more and counts as full. Else prove '..UptoSaid'. A law counts once. -/
mutual
def uptoBulk {H : Type} : DataW H → Nat
  | .lit (.string bytes) => bytes.length + 1
  | .lit _ => 1
  | .nil => 1
  | .ptr d => uptoBulk d + 1
  | .slice elems spare => uptoBulkAll elems + uptoBulkAll spare + 1
  | .agg parts => uptoBulkAll parts + 1
  | .iface _ d => uptoBulk d + 1
  | .map entries => uptoBulkEntries entries + 1
  | .held _ => 1
def uptoBulkAll {H : Type} : List (DataW H) → Nat
  | [] => 0
  | d :: r => uptoBulk d + uptoBulkAll r
def uptoBulkEntries {H : Type} : List (Lit × DataW H) → Nat
  | [] => 0
  | x :: r => uptoBulkEntry x + uptoBulkEntries r
def uptoBulkEntry {H : Type} : Lit × DataW H → Nat
  | (.string bytes, d) => bytes.length + uptoBulk d + 1
  | (_, d) => uptoBulk d + 1
 end
def uptoSmall : (H : Type) → List (DataW H) → Bool := fun _ ds => decide (uptoBulkAll ds ≤ 1048576)
def OpenSpec.upto (s : _root_.Go.ChangeSpec) : _root_.Go.OpenSpec := { _root_.Go.OpenSpec.ofChange s with cond := some uptoSmall }

/-- 'laws.FnExactSystemOf', WHERE WHAT IT READS IS OF BULK AT MOST 1048576: true; the input reads as it did. -/
def fnExactSystemOfUptoRow : OpenClaim := { program := "ytikegdidffjoeaa", sum := "faf0d397831f2de2f7cc0759ab2af5011b9bde646f6b72361a2b62227cc9073a", func := "loop.example/g01355/laws.FnExactSystemOf", spec := "fnExactSystemOf", unfollowed := true, recurses := true, plainKeys := false, apart := false, narrowed := true }
def FnExactSystemOfUptoSaid : Prop := fnExactSystemOfUptoRow.holds Try.pinned (OpenSpec.upto fnExactSystemOfSpec)

/-- 'laws.FnExactThirdPoint', WHERE WHAT IT READS IS OF BULK AT MOST 1048576: true; the input reads as it did. -/
def fnExactThirdPointUptoRow : OpenClaim := { program := "ytikegdidffjoeaa", sum := "faf0d397831f2de2f7cc0759ab2af5011b9bde646f6b72361a2b62227cc9073a", func := "loop.example/g01355/laws.FnExactThirdPoint", spec := "fnExactThirdPoint", unfollowed := true, recurses := true, plainKeys := false, apart := false, narrowed := true }
def FnExactThirdPointUptoSaid : Prop := fnExactThirdPointUptoRow.holds Try.pinned (OpenSpec.upto fnExactThirdPointSpec)

/-- 'laws.FnExactDegreesOf', WHERE WHAT IT READS IS OF BULK AT MOST 1048576: true; the input reads as it did. -/
def fnExactDegreesOfUptoRow : OpenClaim := { program := "ytikegdidffjoeaa", sum := "faf0d397831f2de2f7cc0759ab2af5011b9bde646f6b72361a2b62227cc9073a", func := "loop.example/g01355/laws.FnExactDegreesOf", spec := "fnExactDegreesOf", unfollowed := true, recurses := true, plainKeys := false, apart := false, narrowed := true }
def FnExactDegreesOfUptoSaid : Prop := fnExactDegreesOfUptoRow.holds Try.pinned (OpenSpec.upto fnExactDegreesOfSpec)

/-- 'laws.FnExactPutBlock', WHERE WHAT IT READS IS OF BULK AT MOST 1048576: true; the input reads as it did. -/
def fnExactPutBlockUptoRow : OpenClaim := { program := "ytikegdidffjoeaa", sum := "faf0d397831f2de2f7cc0759ab2af5011b9bde646f6b72361a2b62227cc9073a", func := "loop.example/g01355/laws.FnExactPutBlock", spec := "fnExactPutBlock", unfollowed := true, recurses := true, plainKeys := false, apart := false, narrowed := true }
def FnExactPutBlockUptoSaid : Prop := fnExactPutBlockUptoRow.holds Try.pinned (OpenSpec.upto fnExactPutBlockSpec)

/-- 'laws.FnExactBlocksOn', WHERE WHAT IT READS IS OF BULK AT MOST 1048576: true; the input reads as it did. -/
def fnExactBlocksOnUptoRow : OpenClaim := { program := "ytikegdidffjoeaa", sum := "faf0d397831f2de2f7cc0759ab2af5011b9bde646f6b72361a2b62227cc9073a", func := "loop.example/g01355/laws.FnExactBlocksOn", spec := "fnExactBlocksOn", plainKeys := false, apart := false, narrowed := true }
def FnExactBlocksOnUptoSaid : Prop := fnExactBlocksOnUptoRow.holds Try.pinned (OpenSpec.upto fnExactBlocksOnSpec)

/-- 'laws.FnExactRenumberSystem', WHERE WHAT IT READS IS OF BULK AT MOST 1048576: true; the input reads as it did. -/
def fnExactRenumberSystemUptoRow : OpenClaim := { program := "ytikegdidffjoeaa", sum := "faf0d397831f2de2f7cc0759ab2af5011b9bde646f6b72361a2b62227cc9073a", func := "loop.example/g01355/laws.FnExactRenumberSystem", spec := "fnExactRenumberSystem", unfollowed := true, recurses := true, plainKeys := false, apart := false, narrowed := true }
def FnExactRenumberSystemUptoSaid : Prop := fnExactRenumberSystemUptoRow.holds Try.pinned (OpenSpec.upto fnExactRenumberSystemSpec)

/-- 'laws.FnExactNamedSystem', WHERE WHAT IT READS IS OF BULK AT MOST 1048576: true; the input reads as it did. -/
def fnExactNamedSystemUptoRow : OpenClaim := { program := "ytikegdidffjoeaa", sum := "faf0d397831f2de2f7cc0759ab2af5011b9bde646f6b72361a2b62227cc9073a", func := "loop.example/g01355/laws.FnExactNamedSystem", spec := "fnExactNamedSystem", unfollowed := true, recurses := true, plainKeys := false, apart := false, narrowed := true }
def FnExactNamedSystemUptoSaid : Prop := fnExactNamedSystemUptoRow.holds Try.pinned (OpenSpec.upto fnExactNamedSystemSpec)

/-- 'laws.FnExactIsSquare', WHERE WHAT IT READS IS OF BULK AT MOST 1048576: true; the input reads as it did. -/
def fnExactIsSquareUptoRow : OpenClaim := { program := "ytikegdidffjoeaa", sum := "faf0d397831f2de2f7cc0759ab2af5011b9bde646f6b72361a2b62227cc9073a", func := "loop.example/g01355/laws.FnExactIsSquare", spec := "fnExactIsSquare", unfollowed := true, recurses := true, plainKeys := false, apart := false, narrowed := true }
def FnExactIsSquareUptoSaid : Prop := fnExactIsSquareUptoRow.holds Try.pinned (OpenSpec.upto fnExactIsSquareSpec)

/-- 'laws.FnExactSquareKinds', WHERE WHAT IT READS IS OF BULK AT MOST 1048576: true; the input reads as it did. -/
def fnExactSquareKindsUptoRow : OpenClaim := { program := "ytikegdidffjoeaa", sum := "faf0d397831f2de2f7cc0759ab2af5011b9bde646f6b72361a2b62227cc9073a", func := "loop.example/g01355/laws.FnExactSquareKinds", spec := "fnExactSquareKinds", unfollowed := true, recurses := true, plainKeys := false, apart := false, narrowed := true }
def FnExactSquareKindsUptoSaid : Prop := fnExactSquareKindsUptoRow.holds Try.pinned (OpenSpec.upto fnExactSquareKindsSpec)

/-- 'laws.FnExactThreefoldSystem', WHERE WHAT IT READS IS OF BULK AT MOST 1048576: true; the input reads as it did. -/
def fnExactThreefoldSystemUptoRow : OpenClaim := { program := "ytikegdidffjoeaa", sum := "faf0d397831f2de2f7cc0759ab2af5011b9bde646f6b72361a2b62227cc9073a", func := "loop.example/g01355/laws.FnExactThreefoldSystem", spec := "fnExactThreefoldSystem", unfollowed := true, recurses := true, plainKeys := false, apart := false, narrowed := true }
def FnExactThreefoldSystemUptoSaid : Prop := fnExactThreefoldSystemUptoRow.holds Try.pinned (OpenSpec.upto fnExactThreefoldSystemSpec)

/-- 'laws.FnExactIsDifferenceFamily', WHERE WHAT IT READS IS OF BULK AT MOST 1048576: true; the input reads as it did. -/
def fnExactIsDifferenceFamilyUptoRow : OpenClaim := { program := "ytikegdidffjoeaa", sum := "faf0d397831f2de2f7cc0759ab2af5011b9bde646f6b72361a2b62227cc9073a", func := "loop.example/g01355/laws.FnExactIsDifferenceFamily", spec := "fnExactIsDifferenceFamily", recurses := true, plainKeys := false, apart := false, narrowed := true }
def FnExactIsDifferenceFamilyUptoSaid : Prop := fnExactIsDifferenceFamilyUptoRow.holds Try.pinned (OpenSpec.upto fnExactIsDifferenceFamilySpec)

/-- 'laws.FnExactCyclicSystem', WHERE WHAT IT READS IS OF BULK AT MOST 1048576: true; the input reads as it did. -/
def fnExactCyclicSystemUptoRow : OpenClaim := { program := "ytikegdidffjoeaa", sum := "faf0d397831f2de2f7cc0759ab2af5011b9bde646f6b72361a2b62227cc9073a", func := "loop.example/g01355/laws.FnExactCyclicSystem", spec := "fnExactCyclicSystem", unfollowed := true, recurses := true, plainKeys := false, apart := false, narrowed := true }
def FnExactCyclicSystemUptoSaid : Prop := fnExactCyclicSystemUptoRow.holds Try.pinned (OpenSpec.upto fnExactCyclicSystemSpec)

/-- 'laws.FnExactPaschList', WHERE WHAT IT READS IS OF BULK AT MOST 1048576: true; the input reads as it did. -/
def fnExactPaschListUptoRow : OpenClaim := { program := "ytikegdidffjoeaa", sum := "faf0d397831f2de2f7cc0759ab2af5011b9bde646f6b72361a2b62227cc9073a", func := "loop.example/g01355/laws.FnExactPaschList", spec := "fnExactPaschList", recurses := true, plainKeys := false, apart := false, narrowed := true }
def FnExactPaschListUptoSaid : Prop := fnExactPaschListUptoRow.holds Try.pinned (OpenSpec.upto fnExactPaschListSpec)

/-- 'laws.FnExactCountPasch', WHERE WHAT IT READS IS OF BULK AT MOST 1048576: true; the input reads as it did. -/
def fnExactCountPaschUptoRow : OpenClaim := { program := "ytikegdidffjoeaa", sum := "faf0d397831f2de2f7cc0759ab2af5011b9bde646f6b72361a2b62227cc9073a", func := "loop.example/g01355/laws.FnExactCountPasch", spec := "fnExactCountPasch", recurses := true, plainKeys := false, apart := false, narrowed := true }
def FnExactCountPaschUptoSaid : Prop := fnExactCountPaschUptoRow.holds Try.pinned (OpenSpec.upto fnExactCountPaschSpec)

/-- 'laws.FnExactMitreList', WHERE WHAT IT READS IS OF BULK AT MOST 1048576: true; the input reads as it did. -/
def fnExactMitreListUptoRow : OpenClaim := { program := "ytikegdidffjoeaa", sum := "faf0d397831f2de2f7cc0759ab2af5011b9bde646f6b72361a2b62227cc9073a", func := "loop.example/g01355/laws.FnExactMitreList", spec := "fnExactMitreList", unfollowed := true, recurses := true, plainKeys := false, apart := false, narrowed := true }
def FnExactMitreListUptoSaid : Prop := fnExactMitreListUptoRow.holds Try.pinned (OpenSpec.upto fnExactMitreListSpec)

/-- 'laws.FnExactCountMitres', WHERE WHAT IT READS IS OF BULK AT MOST 1048576: true; the input reads as it did. -/
def fnExactCountMitresUptoRow : OpenClaim := { program := "ytikegdidffjoeaa", sum := "faf0d397831f2de2f7cc0759ab2af5011b9bde646f6b72361a2b62227cc9073a", func := "loop.example/g01355/laws.FnExactCountMitres", spec := "fnExactCountMitres", unfollowed := true, recurses := true, plainKeys := false, apart := false, narrowed := true }
def FnExactCountMitresUptoSaid : Prop := fnExactCountMitresUptoRow.holds Try.pinned (OpenSpec.upto fnExactCountMitresSpec)

/-- 'laws.FnExactMitreCentres', WHERE WHAT IT READS IS OF BULK AT MOST 1048576: true; the input reads as it did. -/
def fnExactMitreCentresUptoRow : OpenClaim := { program := "ytikegdidffjoeaa", sum := "faf0d397831f2de2f7cc0759ab2af5011b9bde646f6b72361a2b62227cc9073a", func := "loop.example/g01355/laws.FnExactMitreCentres", spec := "fnExactMitreCentres", unfollowed := true, recurses := true, plainKeys := false, apart := false, narrowed := true }
def FnExactMitreCentresUptoSaid : Prop := fnExactMitreCentresUptoRow.holds Try.pinned (OpenSpec.upto fnExactMitreCentresSpec)

/-- 'laws.FnExactPaschAtPoints', WHERE WHAT IT READS IS OF BULK AT MOST 1048576: true; the input reads as it did. -/
def fnExactPaschAtPointsUptoRow : OpenClaim := { program := "ytikegdidffjoeaa", sum := "faf0d397831f2de2f7cc0759ab2af5011b9bde646f6b72361a2b62227cc9073a", func := "loop.example/g01355/laws.FnExactPaschAtPoints", spec := "fnExactPaschAtPoints", recurses := true, plainKeys := false, apart := false, narrowed := true }
def FnExactPaschAtPointsUptoSaid : Prop := fnExactPaschAtPointsUptoRow.holds Try.pinned (OpenSpec.upto fnExactPaschAtPointsSpec)

/-- 'laws.FnExactCyclesOf', WHERE WHAT IT READS IS OF BULK AT MOST 1048576: true; the input reads as it did. -/
def fnExactCyclesOfUptoRow : OpenClaim := { program := "ytikegdidffjoeaa", sum := "faf0d397831f2de2f7cc0759ab2af5011b9bde646f6b72361a2b62227cc9073a", func := "loop.example/g01355/laws.FnExactCyclesOf", spec := "fnExactCyclesOf", plainKeys := false, apart := false, narrowed := true }
def FnExactCyclesOfUptoSaid : Prop := fnExactCyclesOfUptoRow.holds Try.pinned (OpenSpec.upto fnExactCyclesOfSpec)

/-- 'laws.FnExactTypeOf', WHERE WHAT IT READS IS OF BULK AT MOST 1048576: true; the input reads as it did. -/
def fnExactTypeOfUptoRow : OpenClaim := { program := "ytikegdidffjoeaa", sum := "faf0d397831f2de2f7cc0759ab2af5011b9bde646f6b72361a2b62227cc9073a", func := "loop.example/g01355/laws.FnExactTypeOf", spec := "fnExactTypeOf", recurses := true, plainKeys := false, apart := false, narrowed := true }
def FnExactTypeOfUptoSaid : Prop := fnExactTypeOfUptoRow.holds Try.pinned (OpenSpec.upto fnExactTypeOfSpec)

/-- 'laws.FnExactTypesOf', WHERE WHAT IT READS IS OF BULK AT MOST 1048576: true; the input reads as it did. -/
def fnExactTypesOfUptoRow : OpenClaim := { program := "ytikegdidffjoeaa", sum := "faf0d397831f2de2f7cc0759ab2af5011b9bde646f6b72361a2b62227cc9073a", func := "loop.example/g01355/laws.FnExactTypesOf", spec := "fnExactTypesOf", unfollowed := true, recurses := true, plainKeys := false, apart := false, narrowed := true }
def FnExactTypesOfUptoSaid : Prop := fnExactTypesOfUptoRow.holds Try.pinned (OpenSpec.upto fnExactTypesOfSpec)

/-- 'laws.FnExactIsUniform', WHERE WHAT IT READS IS OF BULK AT MOST 1048576: true; the input reads as it did. -/
def fnExactIsUniformUptoRow : OpenClaim := { program := "ytikegdidffjoeaa", sum := "faf0d397831f2de2f7cc0759ab2af5011b9bde646f6b72361a2b62227cc9073a", func := "loop.example/g01355/laws.FnExactIsUniform", spec := "fnExactIsUniform", unfollowed := true, recurses := true, plainKeys := false, apart := false, narrowed := true }
def FnExactIsUniformUptoSaid : Prop := fnExactIsUniformUptoRow.holds Try.pinned (OpenSpec.upto fnExactIsUniformSpec)

/-- 'laws.FnExactIsPerfect', WHERE WHAT IT READS IS OF BULK AT MOST 1048576: true; the input reads as it did. -/
def fnExactIsPerfectUptoRow : OpenClaim := { program := "ytikegdidffjoeaa", sum := "faf0d397831f2de2f7cc0759ab2af5011b9bde646f6b72361a2b62227cc9073a", func := "loop.example/g01355/laws.FnExactIsPerfect", spec := "fnExactIsPerfect", unfollowed := true, recurses := true, plainKeys := false, apart := false, narrowed := true }
def FnExactIsPerfectUptoSaid : Prop := fnExactIsPerfectUptoRow.holds Try.pinned (OpenSpec.upto fnExactIsPerfectSpec)

end Rows
end Go.Proofs.Ytikegdidffjoeaa

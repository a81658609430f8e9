/-
  No cell of these rows narrows 'for every input' (looked for: loops, veiled, ifaces, maps, wideKeys, modest, calm, conditions, laid).
  DERIVED. THE GIVEN ROWS OF THIS SEAT. 18 by the template 'for every input the law returns true; each argument reads behind the call as it read before'; 0 by the template 'total and deterministic' (their statements: YtlchcnngikgjjaaTotals.lean).
  GIVEN WITH THE SEED: the statements are not yours to turn. If you find one false, say at which input.
  Laid BY PROGRAM, IN A SANDBOX (cutbox-rows.mjs): the forced cells as the released guide's own fill.sh prints them over the translation 171ccec30426b280… (all of the seat's roots in one cut). By AI agents, Wed Nov 11 2026. No macro, syntax, notation, axiom, sorry.
-/
import Derived.Test.YtlchcnngikgjjaaChecked
import GoSem.Claim
import GoSem.ClaimJoined
import GoSem.ClaimMapViews
import Derived.JoinedTies
import Derived.KernelRfl
namespace Go.Proofs.Ytlchcnngikgjjaa
/- THE CELL 'sum', in the pinned program and in every row, IS THE sha256 OF THE DUMP (.gsa) THAT YtlchcnngikgjjaaProg.lean LOADS. Nothing in Lean hashes anything: it is a label: what it is worth is what the hold of that sum in a sandbox is worth. -/
noncomputable def Try.pinned : Pinned := { name := "ytlchcnngikgjjaa", sum := "171ccec30426b280d7eb2d06b4895df9a521cb88c4d3b1e5cb081da7efd526a9", checked := Try.checked }
namespace Rows
def none {H : Type} : Left H := { results := [], args := [] }

/-- 'laws.FnMadeSystems': WHATEVER THE INPUT: true; the input reads as it did. -/
def fnMadeSystemsSpec : ChangeSpec := { name := "fnMadeSystems", fn := fun _ => fun
  | [d] => { results := [.lit (.bool true)], args := [d] }
  | _ => none }
def fnMadeSystemsRow : OpenClaim := { program := "ytlchcnngikgjjaa", sum := "171ccec30426b280d7eb2d06b4895df9a521cb88c4d3b1e5cb081da7efd526a9", func := "loop.example/g01355/laws.FnMadeSystems", spec := "fnMadeSystems", unfollowed := true, recurses := true, plainKeys := false, apart := false }
def FnMadeSystemsSaid : Prop := fnMadeSystemsRow.holds Try.pinned (OpenSpec.ofChange fnMadeSystemsSpec)

/-- ITS FALSE NEIGHBOUR: 'it returns false'. Refute it at one input. -/
def fnMadeSystemsWrong : ChangeSpec := { name := "fnMadeSystems", fn := fun _ => fun
  | [d] => { results := [.lit (.bool false)], args := [d] }
  | _ => none }
def FnMadeSystemsWrongFalsely : Prop := fnMadeSystemsRow.holds Try.pinned (OpenSpec.ofChange fnMadeSystemsWrong)

/-- 'laws.FnExactSystemOf': WHATEVER THE INPUT: true; the input reads as it did. -/
def fnExactSystemOfSpec : ChangeSpec := { name := "fnExactSystemOf", fn := fun _ => fun
  | [d1, d2] => { results := [.lit (.bool true)], args := [d1, d2] }
  | _ => none }
def fnExactSystemOfRow : OpenClaim := { program := "ytlchcnngikgjjaa", sum := "171ccec30426b280d7eb2d06b4895df9a521cb88c4d3b1e5cb081da7efd526a9", func := "loop.example/g01355/laws.FnExactSystemOf", spec := "fnExactSystemOf", unfollowed := true, recurses := true, plainKeys := false, apart := false }
def FnExactSystemOfSaid : Prop := fnExactSystemOfRow.holds Try.pinned (OpenSpec.ofChange fnExactSystemOfSpec)

/-- ITS FALSE NEIGHBOUR: 'it returns false'. Refute it at one input. -/
def fnExactSystemOfWrong : ChangeSpec := { name := "fnExactSystemOf", fn := fun _ => fun
  | [d1, d2] => { results := [.lit (.bool false)], args := [d1, d2] }
  | _ => none }
def FnExactSystemOfWrongFalsely : Prop := fnExactSystemOfRow.holds Try.pinned (OpenSpec.ofChange fnExactSystemOfWrong)

/-- 'laws.FnExactDegreesOf': WHATEVER THE INPUT: true; the input reads as it did. -/
def fnExactDegreesOfSpec : ChangeSpec := { name := "fnExactDegreesOf", fn := fun _ => fun
  | [d] => { results := [.lit (.bool true)], args := [d] }
  | _ => none }
def fnExactDegreesOfRow : OpenClaim := { program := "ytlchcnngikgjjaa", sum := "171ccec30426b280d7eb2d06b4895df9a521cb88c4d3b1e5cb081da7efd526a9", func := "loop.example/g01355/laws.FnExactDegreesOf", spec := "fnExactDegreesOf", unfollowed := true, recurses := true, plainKeys := false, apart := false }
def FnExactDegreesOfSaid : Prop := fnExactDegreesOfRow.holds Try.pinned (OpenSpec.ofChange fnExactDegreesOfSpec)

/-- ITS FALSE NEIGHBOUR: 'it returns false'. Refute it at one input. -/
def fnExactDegreesOfWrong : ChangeSpec := { name := "fnExactDegreesOf", fn := fun _ => fun
  | [d] => { results := [.lit (.bool false)], args := [d] }
  | _ => none }
def FnExactDegreesOfWrongFalsely : Prop := fnExactDegreesOfRow.holds Try.pinned (OpenSpec.ofChange fnExactDegreesOfWrong)

/-- 'laws.FnExactPairsLeft': WHATEVER THE INPUT: true; the input reads as it did. -/
def fnExactPairsLeftSpec : ChangeSpec := { name := "fnExactPairsLeft", fn := fun _ => fun
  | [d] => { results := [.lit (.bool true)], args := [d] }
  | _ => none }
def fnExactPairsLeftRow : OpenClaim := { program := "ytlchcnngikgjjaa", sum := "171ccec30426b280d7eb2d06b4895df9a521cb88c4d3b1e5cb081da7efd526a9", func := "loop.example/g01355/laws.FnExactPairsLeft", spec := "fnExactPairsLeft", plainKeys := false, apart := false }
def FnExactPairsLeftSaid : Prop := fnExactPairsLeftRow.holds Try.pinned (OpenSpec.ofChange fnExactPairsLeftSpec)

/-- ITS FALSE NEIGHBOUR: 'it returns false'. Refute it at one input. -/
def fnExactPairsLeftWrong : ChangeSpec := { name := "fnExactPairsLeft", fn := fun _ => fun
  | [d] => { results := [.lit (.bool false)], args := [d] }
  | _ => none }
def FnExactPairsLeftWrongFalsely : Prop := fnExactPairsLeftRow.holds Try.pinned (OpenSpec.ofChange fnExactPairsLeftWrong)

/-- 'laws.FnExactPutBlock': WHATEVER THE INPUT: true; the input reads as it did. -/
def fnExactPutBlockSpec : ChangeSpec := { name := "fnExactPutBlock", fn := fun _ => fun
  | [d1, d2] => { results := [.lit (.bool true)], args := [d1, d2] }
  | _ => none }
def fnExactPutBlockRow : OpenClaim := { program := "ytlchcnngikgjjaa", sum := "171ccec30426b280d7eb2d06b4895df9a521cb88c4d3b1e5cb081da7efd526a9", func := "loop.example/g01355/laws.FnExactPutBlock", spec := "fnExactPutBlock", unfollowed := true, recurses := true, plainKeys := false, apart := false }
def FnExactPutBlockSaid : Prop := fnExactPutBlockRow.holds Try.pinned (OpenSpec.ofChange fnExactPutBlockSpec)

/-- ITS FALSE NEIGHBOUR: 'it returns false'. Refute it at one input. -/
def fnExactPutBlockWrong : ChangeSpec := { name := "fnExactPutBlock", fn := fun _ => fun
  | [d1, d2] => { results := [.lit (.bool false)], args := [d1, d2] }
  | _ => none }
def FnExactPutBlockWrongFalsely : Prop := fnExactPutBlockRow.holds Try.pinned (OpenSpec.ofChange fnExactPutBlockWrong)

/-- 'laws.FnExactTakeBlock': WHATEVER THE INPUT: true; the input reads as it did. -/
def fnExactTakeBlockSpec : ChangeSpec := { name := "fnExactTakeBlock", fn := fun _ => fun
  | [d1, d2] => { results := [.lit (.bool true)], args := [d1, d2] }
  | _ => none }
def fnExactTakeBlockRow : OpenClaim := { program := "ytlchcnngikgjjaa", sum := "171ccec30426b280d7eb2d06b4895df9a521cb88c4d3b1e5cb081da7efd526a9", func := "loop.example/g01355/laws.FnExactTakeBlock", spec := "fnExactTakeBlock", plainKeys := false, apart := false }
def FnExactTakeBlockSaid : Prop := fnExactTakeBlockRow.holds Try.pinned (OpenSpec.ofChange fnExactTakeBlockSpec)

/-- ITS FALSE NEIGHBOUR: 'it returns false'. Refute it at one input. -/
def fnExactTakeBlockWrong : ChangeSpec := { name := "fnExactTakeBlock", fn := fun _ => fun
  | [d1, d2] => { results := [.lit (.bool false)], args := [d1, d2] }
  | _ => none }
def FnExactTakeBlockWrongFalsely : Prop := fnExactTakeBlockRow.holds Try.pinned (OpenSpec.ofChange fnExactTakeBlockWrong)

/-- 'laws.FnExactBlocksOn': WHATEVER THE INPUT: true; the input reads as it did. -/
def fnExactBlocksOnSpec : ChangeSpec := { name := "fnExactBlocksOn", fn := fun _ => fun
  | [d1, d2] => { results := [.lit (.bool true)], args := [d1, d2] }
  | _ => none }
def fnExactBlocksOnRow : OpenClaim := { program := "ytlchcnngikgjjaa", sum := "171ccec30426b280d7eb2d06b4895df9a521cb88c4d3b1e5cb081da7efd526a9", func := "loop.example/g01355/laws.FnExactBlocksOn", spec := "fnExactBlocksOn", plainKeys := false, apart := false }
def FnExactBlocksOnSaid : Prop := fnExactBlocksOnRow.holds Try.pinned (OpenSpec.ofChange fnExactBlocksOnSpec)

/-- ITS FALSE NEIGHBOUR: 'it returns false'. Refute it at one input. -/
def fnExactBlocksOnWrong : ChangeSpec := { name := "fnExactBlocksOn", fn := fun _ => fun
  | [d1, d2] => { results := [.lit (.bool false)], args := [d1, d2] }
  | _ => none }
def FnExactBlocksOnWrongFalsely : Prop := fnExactBlocksOnRow.holds Try.pinned (OpenSpec.ofChange fnExactBlocksOnWrong)

/-- 'laws.FnExactRenumberSystem': WHATEVER THE INPUT: true; the input reads as it did. -/
def fnExactRenumberSystemSpec : ChangeSpec := { name := "fnExactRenumberSystem", fn := fun _ => fun
  | [d1, d2] => { results := [.lit (.bool true)], args := [d1, d2] }
  | _ => none }
def fnExactRenumberSystemRow : OpenClaim := { program := "ytlchcnngikgjjaa", sum := "171ccec30426b280d7eb2d06b4895df9a521cb88c4d3b1e5cb081da7efd526a9", func := "loop.example/g01355/laws.FnExactRenumberSystem", spec := "fnExactRenumberSystem", unfollowed := true, recurses := true, plainKeys := false, apart := false }
def FnExactRenumberSystemSaid : Prop := fnExactRenumberSystemRow.holds Try.pinned (OpenSpec.ofChange fnExactRenumberSystemSpec)

/-- ITS FALSE NEIGHBOUR: 'it returns false'. Refute it at one input. -/
def fnExactRenumberSystemWrong : ChangeSpec := { name := "fnExactRenumberSystem", fn := fun _ => fun
  | [d1, d2] => { results := [.lit (.bool false)], args := [d1, d2] }
  | _ => none }
def FnExactRenumberSystemWrongFalsely : Prop := fnExactRenumberSystemRow.holds Try.pinned (OpenSpec.ofChange fnExactRenumberSystemWrong)

/-- 'laws.FnExactNamedSystem': WHATEVER THE INPUT: true; the input reads as it did. -/
def fnExactNamedSystemSpec : ChangeSpec := { name := "fnExactNamedSystem", fn := fun _ => fun
  | [d] => { results := [.lit (.bool true)], args := [d] }
  | _ => none }
def fnExactNamedSystemRow : OpenClaim := { program := "ytlchcnngikgjjaa", sum := "171ccec30426b280d7eb2d06b4895df9a521cb88c4d3b1e5cb081da7efd526a9", func := "loop.example/g01355/laws.FnExactNamedSystem", spec := "fnExactNamedSystem", unfollowed := true, recurses := true, plainKeys := false, apart := false }
def FnExactNamedSystemSaid : Prop := fnExactNamedSystemRow.holds Try.pinned (OpenSpec.ofChange fnExactNamedSystemSpec)

/-- ITS FALSE NEIGHBOUR: 'it returns false'. Refute it at one input. -/
def fnExactNamedSystemWrong : ChangeSpec := { name := "fnExactNamedSystem", fn := fun _ => fun
  | [d] => { results := [.lit (.bool false)], args := [d] }
  | _ => none }
def FnExactNamedSystemWrongFalsely : Prop := fnExactNamedSystemRow.holds Try.pinned (OpenSpec.ofChange fnExactNamedSystemWrong)

/-- 'laws.FnExactIsSquare': WHATEVER THE INPUT: true; the input reads as it did. -/
def fnExactIsSquareSpec : ChangeSpec := { name := "fnExactIsSquare", fn := fun _ => fun
  | [d] => { results := [.lit (.bool true)], args := [d] }
  | _ => none }
def fnExactIsSquareRow : OpenClaim := { program := "ytlchcnngikgjjaa", sum := "171ccec30426b280d7eb2d06b4895df9a521cb88c4d3b1e5cb081da7efd526a9", func := "loop.example/g01355/laws.FnExactIsSquare", spec := "fnExactIsSquare", unfollowed := true, recurses := true, plainKeys := false, apart := false }
def FnExactIsSquareSaid : Prop := fnExactIsSquareRow.holds Try.pinned (OpenSpec.ofChange fnExactIsSquareSpec)

/-- ITS FALSE NEIGHBOUR: 'it returns false'. Refute it at one input. -/
def fnExactIsSquareWrong : ChangeSpec := { name := "fnExactIsSquare", fn := fun _ => fun
  | [d] => { results := [.lit (.bool false)], args := [d] }
  | _ => none }
def FnExactIsSquareWrongFalsely : Prop := fnExactIsSquareRow.holds Try.pinned (OpenSpec.ofChange fnExactIsSquareWrong)

/-- 'laws.FnExactSquareKinds': WHATEVER THE INPUT: true; the input reads as it did. -/
def fnExactSquareKindsSpec : ChangeSpec := { name := "fnExactSquareKinds", fn := fun _ => fun
  | [d] => { results := [.lit (.bool true)], args := [d] }
  | _ => none }
def fnExactSquareKindsRow : OpenClaim := { program := "ytlchcnngikgjjaa", sum := "171ccec30426b280d7eb2d06b4895df9a521cb88c4d3b1e5cb081da7efd526a9", func := "loop.example/g01355/laws.FnExactSquareKinds", spec := "fnExactSquareKinds", unfollowed := true, recurses := true, plainKeys := false, apart := false }
def FnExactSquareKindsSaid : Prop := fnExactSquareKindsRow.holds Try.pinned (OpenSpec.ofChange fnExactSquareKindsSpec)

/-- ITS FALSE NEIGHBOUR: 'it returns false'. Refute it at one input. -/
def fnExactSquareKindsWrong : ChangeSpec := { name := "fnExactSquareKinds", fn := fun _ => fun
  | [d] => { results := [.lit (.bool false)], args := [d] }
  | _ => none }
def FnExactSquareKindsWrongFalsely : Prop := fnExactSquareKindsRow.holds Try.pinned (OpenSpec.ofChange fnExactSquareKindsWrong)

/-- 'laws.FnExactSquareOf': WHATEVER THE INPUT: true; the input reads as it did. -/
def fnExactSquareOfSpec : ChangeSpec := { name := "fnExactSquareOf", fn := fun _ => fun
  | [d] => { results := [.lit (.bool true)], args := [d] }
  | _ => none }
def fnExactSquareOfRow : OpenClaim := { program := "ytlchcnngikgjjaa", sum := "171ccec30426b280d7eb2d06b4895df9a521cb88c4d3b1e5cb081da7efd526a9", func := "loop.example/g01355/laws.FnExactSquareOf", spec := "fnExactSquareOf", plainKeys := false, apart := false }
def FnExactSquareOfSaid : Prop := fnExactSquareOfRow.holds Try.pinned (OpenSpec.ofChange fnExactSquareOfSpec)

/-- ITS FALSE NEIGHBOUR: 'it returns false'. Refute it at one input. -/
def fnExactSquareOfWrong : ChangeSpec := { name := "fnExactSquareOf", fn := fun _ => fun
  | [d] => { results := [.lit (.bool false)], args := [d] }
  | _ => none }
def FnExactSquareOfWrongFalsely : Prop := fnExactSquareOfRow.holds Try.pinned (OpenSpec.ofChange fnExactSquareOfWrong)

/-- 'laws.FnExactThreefoldSystem': WHATEVER THE INPUT: true; the input reads as it did. -/
def fnExactThreefoldSystemSpec : ChangeSpec := { name := "fnExactThreefoldSystem", fn := fun _ => fun
  | [d] => { results := [.lit (.bool true)], args := [d] }
  | _ => none }
def fnExactThreefoldSystemRow : OpenClaim := { program := "ytlchcnngikgjjaa", sum := "171ccec30426b280d7eb2d06b4895df9a521cb88c4d3b1e5cb081da7efd526a9", func := "loop.example/g01355/laws.FnExactThreefoldSystem", spec := "fnExactThreefoldSystem", unfollowed := true, recurses := true, plainKeys := false, apart := false }
def FnExactThreefoldSystemSaid : Prop := fnExactThreefoldSystemRow.holds Try.pinned (OpenSpec.ofChange fnExactThreefoldSystemSpec)

/-- ITS FALSE NEIGHBOUR: 'it returns false'. Refute it at one input. -/
def fnExactThreefoldSystemWrong : ChangeSpec := { name := "fnExactThreefoldSystem", fn := fun _ => fun
  | [d] => { results := [.lit (.bool false)], args := [d] }
  | _ => none }
def FnExactThreefoldSystemWrongFalsely : Prop := fnExactThreefoldSystemRow.holds Try.pinned (OpenSpec.ofChange fnExactThreefoldSystemWrong)

/-- 'laws.FnExactDoubleSystem': WHATEVER THE INPUT: true; the input reads as it did. -/
def fnExactDoubleSystemSpec : ChangeSpec := { name := "fnExactDoubleSystem", fn := fun _ => fun
  | [d] => { results := [.lit (.bool true)], args := [d] }
  | _ => none }
def fnExactDoubleSystemRow : OpenClaim := { program := "ytlchcnngikgjjaa", sum := "171ccec30426b280d7eb2d06b4895df9a521cb88c4d3b1e5cb081da7efd526a9", func := "loop.example/g01355/laws.FnExactDoubleSystem", spec := "fnExactDoubleSystem", unfollowed := true, recurses := true, plainKeys := false, apart := false }
def FnExactDoubleSystemSaid : Prop := fnExactDoubleSystemRow.holds Try.pinned (OpenSpec.ofChange fnExactDoubleSystemSpec)

/-- ITS FALSE NEIGHBOUR: 'it returns false'. Refute it at one input. -/
def fnExactDoubleSystemWrong : ChangeSpec := { name := "fnExactDoubleSystem", fn := fun _ => fun
  | [d] => { results := [.lit (.bool false)], args := [d] }
  | _ => none }
def FnExactDoubleSystemWrongFalsely : Prop := fnExactDoubleSystemRow.holds Try.pinned (OpenSpec.ofChange fnExactDoubleSystemWrong)

/-- 'laws.FnExactProductSystem': WHATEVER THE INPUT: true; the input reads as it did. -/
def fnExactProductSystemSpec : ChangeSpec := { name := "fnExactProductSystem", fn := fun _ => fun
  | [d1, d2] => { results := [.lit (.bool true)], args := [d1, d2] }
  | _ => none }
def fnExactProductSystemRow : OpenClaim := { program := "ytlchcnngikgjjaa", sum := "171ccec30426b280d7eb2d06b4895df9a521cb88c4d3b1e5cb081da7efd526a9", func := "loop.example/g01355/laws.FnExactProductSystem", spec := "fnExactProductSystem", unfollowed := true, recurses := true, plainKeys := false, apart := false }
def FnExactProductSystemSaid : Prop := fnExactProductSystemRow.holds Try.pinned (OpenSpec.ofChange fnExactProductSystemSpec)

/-- ITS FALSE NEIGHBOUR: 'it returns false'. Refute it at one input. -/
def fnExactProductSystemWrong : ChangeSpec := { name := "fnExactProductSystem", fn := fun _ => fun
  | [d1, d2] => { results := [.lit (.bool false)], args := [d1, d2] }
  | _ => none }
def FnExactProductSystemWrongFalsely : Prop := fnExactProductSystemRow.holds Try.pinned (OpenSpec.ofChange fnExactProductSystemWrong)

/-- 'laws.FnExactIsDifferenceFamily': WHATEVER THE INPUT: true; the input reads as it did. -/
def fnExactIsDifferenceFamilySpec : ChangeSpec := { name := "fnExactIsDifferenceFamily", fn := fun _ => fun
  | [d1, d2] => { results := [.lit (.bool true)], args := [d1, d2] }
  | _ => none }
def fnExactIsDifferenceFamilyRow : OpenClaim := { program := "ytlchcnngikgjjaa", sum := "171ccec30426b280d7eb2d06b4895df9a521cb88c4d3b1e5cb081da7efd526a9", func := "loop.example/g01355/laws.FnExactIsDifferenceFamily", spec := "fnExactIsDifferenceFamily", recurses := true, plainKeys := false, apart := false }
def FnExactIsDifferenceFamilySaid : Prop := fnExactIsDifferenceFamilyRow.holds Try.pinned (OpenSpec.ofChange fnExactIsDifferenceFamilySpec)

/-- ITS FALSE NEIGHBOUR: 'it returns false'. Refute it at one input. -/
def fnExactIsDifferenceFamilyWrong : ChangeSpec := { name := "fnExactIsDifferenceFamily", fn := fun _ => fun
  | [d1, d2] => { results := [.lit (.bool false)], args := [d1, d2] }
  | _ => none }
def FnExactIsDifferenceFamilyWrongFalsely : Prop := fnExactIsDifferenceFamilyRow.holds Try.pinned (OpenSpec.ofChange fnExactIsDifferenceFamilyWrong)

/-- 'laws.FnExactDifferenceFamilies': WHATEVER THE INPUT: true; the input reads as it did. -/
def fnExactDifferenceFamiliesSpec : ChangeSpec := { name := "fnExactDifferenceFamilies", fn := fun _ => fun
  | [d] => { results := [.lit (.bool true)], args := [d] }
  | _ => none }
def fnExactDifferenceFamiliesRow : OpenClaim := { program := "ytlchcnngikgjjaa", sum := "171ccec30426b280d7eb2d06b4895df9a521cb88c4d3b1e5cb081da7efd526a9", func := "loop.example/g01355/laws.FnExactDifferenceFamilies", spec := "fnExactDifferenceFamilies", unfollowed := true, recurses := true, plainKeys := false, apart := false }
def FnExactDifferenceFamiliesSaid : Prop := fnExactDifferenceFamiliesRow.holds Try.pinned (OpenSpec.ofChange fnExactDifferenceFamiliesSpec)

/-- ITS FALSE NEIGHBOUR: 'it returns false'. Refute it at one input. -/
def fnExactDifferenceFamiliesWrong : ChangeSpec := { name := "fnExactDifferenceFamilies", fn := fun _ => fun
  | [d] => { results := [.lit (.bool false)], args := [d] }
  | _ => none }
def FnExactDifferenceFamiliesWrongFalsely : Prop := fnExactDifferenceFamiliesRow.holds Try.pinned (OpenSpec.ofChange fnExactDifferenceFamiliesWrong)

/-- 'laws.FnExactCyclicSystem': WHATEVER THE INPUT: true; the input reads as it did. -/
def fnExactCyclicSystemSpec : ChangeSpec := { name := "fnExactCyclicSystem", fn := fun _ => fun
  | [d1, d2] => { results := [.lit (.bool true)], args := [d1, d2] }
  | _ => none }
def fnExactCyclicSystemRow : OpenClaim := { program := "ytlchcnngikgjjaa", sum := "171ccec30426b280d7eb2d06b4895df9a521cb88c4d3b1e5cb081da7efd526a9", func := "loop.example/g01355/laws.FnExactCyclicSystem", spec := "fnExactCyclicSystem", unfollowed := true, recurses := true, plainKeys := false, apart := false }
def FnExactCyclicSystemSaid : Prop := fnExactCyclicSystemRow.holds Try.pinned (OpenSpec.ofChange fnExactCyclicSystemSpec)

/-- ITS FALSE NEIGHBOUR: 'it returns false'. Refute it at one input. -/
def fnExactCyclicSystemWrong : ChangeSpec := { name := "fnExactCyclicSystem", fn := fun _ => fun
  | [d1, d2] => { results := [.lit (.bool false)], args := [d1, d2] }
  | _ => none }
def FnExactCyclicSystemWrongFalsely : Prop := fnExactCyclicSystemRow.holds Try.pinned (OpenSpec.ofChange fnExactCyclicSystemWrong)

/- THE SECOND FORM. 'bulk': how many values and letters a reading holds, each counted each time it is reached (what is shared counts as often as it is met; a slice's spare places count too). A statement '..UptoSaid' is the law's where the arguments, and the package variables that the reading takes, are together of bulk at most 1048576: NARROWER than '..Said'. Prove '..Said' where nothing that the law and all that it calls make is longer than what came in: it says more and counts as full. Else prove '..UptoSaid'. A law counts once. -/
mutual
def uptoBulk {H : Type} : DataW H → Nat
  | .lit (.string bytes) => bytes.length + 1
  | .lit _ => 1
  | .nil => 1
  | .ptr d => uptoBulk d + 1
  | .slice elems spare => uptoBulkAll elems + uptoBulkAll spare + 1
  | .agg parts => uptoBulkAll parts + 1
  | .iface _ d => uptoBulk d + 1
  | .map entries => uptoBulkEntries entries + 1
  | .held _ => 1
def uptoBulkAll {H : Type} : List (DataW H) → Nat
  | [] => 0
  | d :: r => uptoBulk d + uptoBulkAll r
def uptoBulkEntries {H : Type} : List (Lit × DataW H) → Nat
  | [] => 0
  | x :: r => uptoBulkEntry x + uptoBulkEntries r
def uptoBulkEntry {H : Type} : Lit × DataW H → Nat
  | (.string bytes, d) => bytes.length + uptoBulk d + 1
  | (_, d) => uptoBulk d + 1
 end
def uptoSmall : (H : Type) → List (DataW H) → Bool := fun _ ds => decide (uptoBulkAll ds ≤ 1048576)
def OpenSpec.upto (s : _root_.Go.ChangeSpec) : _root_.Go.OpenSpec := { _root_.Go.OpenSpec.ofChange s with cond := some uptoSmall }

/-- 'laws.FnMadeSystems', WHERE WHAT IT READS IS OF BULK AT MOST 1048576: true; the input reads as it did. -/
def fnMadeSystemsUptoRow : OpenClaim := { program := "ytlchcnngikgjjaa", sum := "171ccec30426b280d7eb2d06b4895df9a521cb88c4d3b1e5cb081da7efd526a9", func := "loop.example/g01355/laws.FnMadeSystems", spec := "fnMadeSystems", unfollowed := true, recurses := true, plainKeys := false, apart := false, narrowed := true }
def FnMadeSystemsUptoSaid : Prop := fnMadeSystemsUptoRow.holds Try.pinned (OpenSpec.upto fnMadeSystemsSpec)

/-- 'laws.FnExactSystemOf', WHERE WHAT IT READS IS OF BULK AT MOST 1048576: true; the input reads as it did. -/
def fnExactSystemOfUptoRow : OpenClaim := { program := "ytlchcnngikgjjaa", sum := "171ccec30426b280d7eb2d06b4895df9a521cb88c4d3b1e5cb081da7efd526a9", func := "loop.example/g01355/laws.FnExactSystemOf", spec := "fnExactSystemOf", unfollowed := true, recurses := true, plainKeys := false, apart := false, narrowed := true }
def FnExactSystemOfUptoSaid : Prop := fnExactSystemOfUptoRow.holds Try.pinned (OpenSpec.upto fnExactSystemOfSpec)

/-- 'laws.FnExactDegreesOf', WHERE WHAT IT READS IS OF BULK AT MOST 1048576: true; the input reads as it did. -/
def fnExactDegreesOfUptoRow : OpenClaim := { program := "ytlchcnngikgjjaa", sum := "171ccec30426b280d7eb2d06b4895df9a521cb88c4d3b1e5cb081da7efd526a9", func := "loop.example/g01355/laws.FnExactDegreesOf", spec := "fnExactDegreesOf", unfollowed := true, recurses := true, plainKeys := false, apart := false, narrowed := true }
def FnExactDegreesOfUptoSaid : Prop := fnExactDegreesOfUptoRow.holds Try.pinned (OpenSpec.upto fnExactDegreesOfSpec)

/-- 'laws.FnExactPairsLeft', WHERE WHAT IT READS IS OF BULK AT MOST 1048576: true; the input reads as it did. -/
def fnExactPairsLeftUptoRow : OpenClaim := { program := "ytlchcnngikgjjaa", sum := "171ccec30426b280d7eb2d06b4895df9a521cb88c4d3b1e5cb081da7efd526a9", func := "loop.example/g01355/laws.FnExactPairsLeft", spec := "fnExactPairsLeft", plainKeys := false, apart := false, narrowed := true }
def FnExactPairsLeftUptoSaid : Prop := fnExactPairsLeftUptoRow.holds Try.pinned (OpenSpec.upto fnExactPairsLeftSpec)

/-- 'laws.FnExactPutBlock', WHERE WHAT IT READS IS OF BULK AT MOST 1048576: true; the input reads as it did. -/
def fnExactPutBlockUptoRow : OpenClaim := { program := "ytlchcnngikgjjaa", sum := "171ccec30426b280d7eb2d06b4895df9a521cb88c4d3b1e5cb081da7efd526a9", func := "loop.example/g01355/laws.FnExactPutBlock", spec := "fnExactPutBlock", unfollowed := true, recurses := true, plainKeys := false, apart := false, narrowed := true }
def FnExactPutBlockUptoSaid : Prop := fnExactPutBlockUptoRow.holds Try.pinned (OpenSpec.upto fnExactPutBlockSpec)

/-- 'laws.FnExactTakeBlock', WHERE WHAT IT READS IS OF BULK AT MOST 1048576: true; the input reads as it did. -/
def fnExactTakeBlockUptoRow : OpenClaim := { program := "ytlchcnngikgjjaa", sum := "171ccec30426b280d7eb2d06b4895df9a521cb88c4d3b1e5cb081da7efd526a9", func := "loop.example/g01355/laws.FnExactTakeBlock", spec := "fnExactTakeBlock", plainKeys := false, apart := false, narrowed := true }
def FnExactTakeBlockUptoSaid : Prop := fnExactTakeBlockUptoRow.holds Try.pinned (OpenSpec.upto fnExactTakeBlockSpec)

/-- 'laws.FnExactBlocksOn', WHERE WHAT IT READS IS OF BULK AT MOST 1048576: true; the input reads as it did. -/
def fnExactBlocksOnUptoRow : OpenClaim := { program := "ytlchcnngikgjjaa", sum := "171ccec30426b280d7eb2d06b4895df9a521cb88c4d3b1e5cb081da7efd526a9", func := "loop.example/g01355/laws.FnExactBlocksOn", spec := "fnExactBlocksOn", plainKeys := false, apart := false, narrowed := true }
def FnExactBlocksOnUptoSaid : Prop := fnExactBlocksOnUptoRow.holds Try.pinned (OpenSpec.upto fnExactBlocksOnSpec)

/-- 'laws.FnExactRenumberSystem', WHERE WHAT IT READS IS OF BULK AT MOST 1048576: true; the input reads as it did. -/
def fnExactRenumberSystemUptoRow : OpenClaim := { program := "ytlchcnngikgjjaa", sum := "171ccec30426b280d7eb2d06b4895df9a521cb88c4d3b1e5cb081da7efd526a9", func := "loop.example/g01355/laws.FnExactRenumberSystem", spec := "fnExactRenumberSystem", unfollowed := true, recurses := true, plainKeys := false, apart := false, narrowed := true }
def FnExactRenumberSystemUptoSaid : Prop := fnExactRenumberSystemUptoRow.holds Try.pinned (OpenSpec.upto fnExactRenumberSystemSpec)

/-- 'laws.FnExactNamedSystem', WHERE WHAT IT READS IS OF BULK AT MOST 1048576: true; the input reads as it did. -/
def fnExactNamedSystemUptoRow : OpenClaim := { program := "ytlchcnngikgjjaa", sum := "171ccec30426b280d7eb2d06b4895df9a521cb88c4d3b1e5cb081da7efd526a9", func := "loop.example/g01355/laws.FnExactNamedSystem", spec := "fnExactNamedSystem", unfollowed := true, recurses := true, plainKeys := false, apart := false, narrowed := true }
def FnExactNamedSystemUptoSaid : Prop := fnExactNamedSystemUptoRow.holds Try.pinned (OpenSpec.upto fnExactNamedSystemSpec)

/-- 'laws.FnExactIsSquare', WHERE WHAT IT READS IS OF BULK AT MOST 1048576: true; the input reads as it did. -/
def fnExactIsSquareUptoRow : OpenClaim := { program := "ytlchcnngikgjjaa", sum := "171ccec30426b280d7eb2d06b4895df9a521cb88c4d3b1e5cb081da7efd526a9", func := "loop.example/g01355/laws.FnExactIsSquare", spec := "fnExactIsSquare", unfollowed := true, recurses := true, plainKeys := false, apart := false, narrowed := true }
def FnExactIsSquareUptoSaid : Prop := fnExactIsSquareUptoRow.holds Try.pinned (OpenSpec.upto fnExactIsSquareSpec)

/-- 'laws.FnExactSquareKinds', WHERE WHAT IT READS IS OF BULK AT MOST 1048576: true; the input reads as it did. -/
def fnExactSquareKindsUptoRow : OpenClaim := { program := "ytlchcnngikgjjaa", sum := "171ccec30426b280d7eb2d06b4895df9a521cb88c4d3b1e5cb081da7efd526a9", func := "loop.example/g01355/laws.FnExactSquareKinds", spec := "fnExactSquareKinds", unfollowed := true, recurses := true, plainKeys := false, apart := false, narrowed := true }
def FnExactSquareKindsUptoSaid : Prop := fnExactSquareKindsUptoRow.holds Try.pinned (OpenSpec.upto fnExactSquareKindsSpec)

/-- 'laws.FnExactSquareOf', WHERE WHAT IT READS IS OF BULK AT MOST 1048576: true; the input reads as it did. -/
def fnExactSquareOfUptoRow : OpenClaim := { program := "ytlchcnngikgjjaa", sum := "171ccec30426b280d7eb2d06b4895df9a521cb88c4d3b1e5cb081da7efd526a9", func := "loop.example/g01355/laws.FnExactSquareOf", spec := "fnExactSquareOf", plainKeys := false, apart := false, narrowed := true }
def FnExactSquareOfUptoSaid : Prop := fnExactSquareOfUptoRow.holds Try.pinned (OpenSpec.upto fnExactSquareOfSpec)

/-- 'laws.FnExactThreefoldSystem', WHERE WHAT IT READS IS OF BULK AT MOST 1048576: true; the input reads as it did. -/
def fnExactThreefoldSystemUptoRow : OpenClaim := { program := "ytlchcnngikgjjaa", sum := "171ccec30426b280d7eb2d06b4895df9a521cb88c4d3b1e5cb081da7efd526a9", func := "loop.example/g01355/laws.FnExactThreefoldSystem", spec := "fnExactThreefoldSystem", unfollowed := true, recurses := true, plainKeys := false, apart := false, narrowed := true }
def FnExactThreefoldSystemUptoSaid : Prop := fnExactThreefoldSystemUptoRow.holds Try.pinned (OpenSpec.upto fnExactThreefoldSystemSpec)

/-- 'laws.FnExactDoubleSystem', WHERE WHAT IT READS IS OF BULK AT MOST 1048576: true; the input reads as it did. -/
def fnExactDoubleSystemUptoRow : OpenClaim := { program := "ytlchcnngikgjjaa", sum := "171ccec30426b280d7eb2d06b4895df9a521cb88c4d3b1e5cb081da7efd526a9", func := "loop.example/g01355/laws.FnExactDoubleSystem", spec := "fnExactDoubleSystem", unfollowed := true, recurses := true, plainKeys := false, apart := false, narrowed := true }
def FnExactDoubleSystemUptoSaid : Prop := fnExactDoubleSystemUptoRow.holds Try.pinned (OpenSpec.upto fnExactDoubleSystemSpec)

/-- 'laws.FnExactProductSystem', WHERE WHAT IT READS IS OF BULK AT MOST 1048576: true; the input reads as it did. -/
def fnExactProductSystemUptoRow : OpenClaim := { program := "ytlchcnngikgjjaa", sum := "171ccec30426b280d7eb2d06b4895df9a521cb88c4d3b1e5cb081da7efd526a9", func := "loop.example/g01355/laws.FnExactProductSystem", spec := "fnExactProductSystem", unfollowed := true, recurses := true, plainKeys := false, apart := false, narrowed := true }
def FnExactProductSystemUptoSaid : Prop := fnExactProductSystemUptoRow.holds Try.pinned (OpenSpec.upto fnExactProductSystemSpec)

/-- 'laws.FnExactIsDifferenceFamily', WHERE WHAT IT READS IS OF BULK AT MOST 1048576: true; the input reads as it did. -/
def fnExactIsDifferenceFamilyUptoRow : OpenClaim := { program := "ytlchcnngikgjjaa", sum := "171ccec30426b280d7eb2d06b4895df9a521cb88c4d3b1e5cb081da7efd526a9", func := "loop.example/g01355/laws.FnExactIsDifferenceFamily", spec := "fnExactIsDifferenceFamily", recurses := true, plainKeys := false, apart := false, narrowed := true }
def FnExactIsDifferenceFamilyUptoSaid : Prop := fnExactIsDifferenceFamilyUptoRow.holds Try.pinned (OpenSpec.upto fnExactIsDifferenceFamilySpec)

/-- 'laws.FnExactDifferenceFamilies', WHERE WHAT IT READS IS OF BULK AT MOST 1048576: true; the input reads as it did. -/
def fnExactDifferenceFamiliesUptoRow : OpenClaim := { program := "ytlchcnngikgjjaa", sum := "171ccec30426b280d7eb2d06b4895df9a521cb88c4d3b1e5cb081da7efd526a9", func := "loop.example/g01355/laws.FnExactDifferenceFamilies", spec := "fnExactDifferenceFamilies", unfollowed := true, recurses := true, plainKeys := false, apart := false, narrowed := true }
def FnExactDifferenceFamiliesUptoSaid : Prop := fnExactDifferenceFamiliesUptoRow.holds Try.pinned (OpenSpec.upto fnExactDifferenceFamiliesSpec)

/-- 'laws.FnExactCyclicSystem', WHERE WHAT IT READS IS OF BULK AT MOST 1048576: true; the input reads as it did. -/
def fnExactCyclicSystemUptoRow : OpenClaim := { program := "ytlchcnngikgjjaa", sum := "171ccec30426b280d7eb2d06b4895df9a521cb88c4d3b1e5cb081da7efd526a9", func := "loop.example/g01355/laws.FnExactCyclicSystem", spec := "fnExactCyclicSystem", unfollowed := true, recurses := true, plainKeys := false, apart := false, narrowed := true }
def FnExactCyclicSystemUptoSaid : Prop := fnExactCyclicSystemUptoRow.holds Try.pinned (OpenSpec.upto fnExactCyclicSystemSpec)

end Rows
end Go.Proofs.Ytlchcnngikgjjaa

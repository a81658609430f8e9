/-
  No cell of these rows narrows 'for every input' (looked for: loops, veiled, ifaces, maps, wideKeys, modest, calm, conditions, laid).
  DERIVED. THE GIVEN ROWS OF THIS SEAT. 14 by the template 'for every input the law returns true; each argument reads behind the call as it read before'; 0 by the template 'total and deterministic' (their statements: YtomcjifklggcnaaTotals.lean).
  GIVEN WITH THE SEED: the statements are not yours to turn. If you find one false, say at which input.
  Laid BY PROGRAM, IN A SANDBOX (cutbox-rows.mjs): the forced cells as the released guide's own fill.sh prints them over the translation 1aa8a5980555cf72… (all of the seat's roots in one cut). By AI agents, Wed Nov 11 2026. No macro, syntax, notation, axiom, sorry.
-/
import Derived.Test.YtomcjifklggcnaaChecked
import GoSem.Claim
import GoSem.ClaimJoined
import GoSem.ClaimMapViews
import Derived.JoinedTies
import Derived.KernelRfl
namespace Go.Proofs.Ytomcjifklggcnaa
/- THE CELL 'sum', in the pinned program and in every row, IS THE sha256 OF THE DUMP (.gsa) THAT YtomcjifklggcnaaProg.lean LOADS. Nothing in Lean hashes anything: it is a label: what it is worth is what the hold of that sum in a sandbox is worth. -/
noncomputable def Try.pinned : Pinned := { name := "ytomcjifklggcnaa", sum := "1aa8a5980555cf729fa93af7bc0730cada55bcda2cdb83021d30d0d84ee5ea0d", checked := Try.checked }
namespace Rows
def none {H : Type} : Left H := { results := [], args := [] }

/-- 'laws.FnExactIsSystem': WHATEVER THE INPUT: true; the input reads as it did. -/
def fnExactIsSystemSpec : ChangeSpec := { name := "fnExactIsSystem", fn := fun _ => fun
  | [d] => { results := [.lit (.bool true)], args := [d] }
  | _ => none }
def fnExactIsSystemRow : OpenClaim := { program := "ytomcjifklggcnaa", sum := "1aa8a5980555cf729fa93af7bc0730cada55bcda2cdb83021d30d0d84ee5ea0d", func := "loop.example/g01355/laws.FnExactIsSystem", spec := "fnExactIsSystem", plainKeys := false, apart := false }
def FnExactIsSystemSaid : Prop := fnExactIsSystemRow.holds Try.pinned (OpenSpec.ofChange fnExactIsSystemSpec)

/-- ITS FALSE NEIGHBOUR: 'it returns false'. Refute it at one input. -/
def fnExactIsSystemWrong : ChangeSpec := { name := "fnExactIsSystem", fn := fun _ => fun
  | [d] => { results := [.lit (.bool false)], args := [d] }
  | _ => none }
def FnExactIsSystemWrongFalsely : Prop := fnExactIsSystemRow.holds Try.pinned (OpenSpec.ofChange fnExactIsSystemWrong)

/-- 'laws.FnExactSystemOf': WHATEVER THE INPUT: true; the input reads as it did. -/
def fnExactSystemOfSpec : ChangeSpec := { name := "fnExactSystemOf", fn := fun _ => fun
  | [d1, d2] => { results := [.lit (.bool true)], args := [d1, d2] }
  | _ => none }
def fnExactSystemOfRow : OpenClaim := { program := "ytomcjifklggcnaa", sum := "1aa8a5980555cf729fa93af7bc0730cada55bcda2cdb83021d30d0d84ee5ea0d", func := "loop.example/g01355/laws.FnExactSystemOf", spec := "fnExactSystemOf", unfollowed := true, recurses := true, plainKeys := false, apart := false }
def FnExactSystemOfSaid : Prop := fnExactSystemOfRow.holds Try.pinned (OpenSpec.ofChange fnExactSystemOfSpec)

/-- ITS FALSE NEIGHBOUR: 'it returns false'. Refute it at one input. -/
def fnExactSystemOfWrong : ChangeSpec := { name := "fnExactSystemOf", fn := fun _ => fun
  | [d1, d2] => { results := [.lit (.bool false)], args := [d1, d2] }
  | _ => none }
def FnExactSystemOfWrongFalsely : Prop := fnExactSystemOfRow.holds Try.pinned (OpenSpec.ofChange fnExactSystemOfWrong)

/-- 'laws.FnExactIsFull': WHATEVER THE INPUT: true; the input reads as it did. -/
def fnExactIsFullSpec : ChangeSpec := { name := "fnExactIsFull", fn := fun _ => fun
  | [d] => { results := [.lit (.bool true)], args := [d] }
  | _ => none }
def fnExactIsFullRow : OpenClaim := { program := "ytomcjifklggcnaa", sum := "1aa8a5980555cf729fa93af7bc0730cada55bcda2cdb83021d30d0d84ee5ea0d", func := "loop.example/g01355/laws.FnExactIsFull", spec := "fnExactIsFull", plainKeys := false, apart := false }
def FnExactIsFullSaid : Prop := fnExactIsFullRow.holds Try.pinned (OpenSpec.ofChange fnExactIsFullSpec)

/-- ITS FALSE NEIGHBOUR: 'it returns false'. Refute it at one input. -/
def fnExactIsFullWrong : ChangeSpec := { name := "fnExactIsFull", fn := fun _ => fun
  | [d] => { results := [.lit (.bool false)], args := [d] }
  | _ => none }
def FnExactIsFullWrongFalsely : Prop := fnExactIsFullRow.holds Try.pinned (OpenSpec.ofChange fnExactIsFullWrong)

/-- 'laws.FnExactThirdPoint': WHATEVER THE INPUT: true; the input reads as it did. -/
def fnExactThirdPointSpec : ChangeSpec := { name := "fnExactThirdPoint", fn := fun _ => fun
  | [d1, d2, d3] => { results := [.lit (.bool true)], args := [d1, d2, d3] }
  | _ => none }
def fnExactThirdPointRow : OpenClaim := { program := "ytomcjifklggcnaa", sum := "1aa8a5980555cf729fa93af7bc0730cada55bcda2cdb83021d30d0d84ee5ea0d", func := "loop.example/g01355/laws.FnExactThirdPoint", spec := "fnExactThirdPoint", unfollowed := true, recurses := true, plainKeys := false, apart := false }
def FnExactThirdPointSaid : Prop := fnExactThirdPointRow.holds Try.pinned (OpenSpec.ofChange fnExactThirdPointSpec)

/-- ITS FALSE NEIGHBOUR: 'it returns false'. Refute it at one input. -/
def fnExactThirdPointWrong : ChangeSpec := { name := "fnExactThirdPoint", fn := fun _ => fun
  | [d1, d2, d3] => { results := [.lit (.bool false)], args := [d1, d2, d3] }
  | _ => none }
def FnExactThirdPointWrongFalsely : Prop := fnExactThirdPointRow.holds Try.pinned (OpenSpec.ofChange fnExactThirdPointWrong)

/-- 'laws.FnExactBlocksAt': WHATEVER THE INPUT: true; the input reads as it did. -/
def fnExactBlocksAtSpec : ChangeSpec := { name := "fnExactBlocksAt", fn := fun _ => fun
  | [d1, d2] => { results := [.lit (.bool true)], args := [d1, d2] }
  | _ => none }
def fnExactBlocksAtRow : OpenClaim := { program := "ytomcjifklggcnaa", sum := "1aa8a5980555cf729fa93af7bc0730cada55bcda2cdb83021d30d0d84ee5ea0d", func := "loop.example/g01355/laws.FnExactBlocksAt", spec := "fnExactBlocksAt", unfollowed := true, recurses := true, plainKeys := false, apart := false }
def FnExactBlocksAtSaid : Prop := fnExactBlocksAtRow.holds Try.pinned (OpenSpec.ofChange fnExactBlocksAtSpec)

/-- ITS FALSE NEIGHBOUR: 'it returns false'. Refute it at one input. -/
def fnExactBlocksAtWrong : ChangeSpec := { name := "fnExactBlocksAt", fn := fun _ => fun
  | [d1, d2] => { results := [.lit (.bool false)], args := [d1, d2] }
  | _ => none }
def FnExactBlocksAtWrongFalsely : Prop := fnExactBlocksAtRow.holds Try.pinned (OpenSpec.ofChange fnExactBlocksAtWrong)

/-- 'laws.FnExactDegreesOf': WHATEVER THE INPUT: true; the input reads as it did. -/
def fnExactDegreesOfSpec : ChangeSpec := { name := "fnExactDegreesOf", fn := fun _ => fun
  | [d] => { results := [.lit (.bool true)], args := [d] }
  | _ => none }
def fnExactDegreesOfRow : OpenClaim := { program := "ytomcjifklggcnaa", sum := "1aa8a5980555cf729fa93af7bc0730cada55bcda2cdb83021d30d0d84ee5ea0d", func := "loop.example/g01355/laws.FnExactDegreesOf", spec := "fnExactDegreesOf", unfollowed := true, recurses := true, plainKeys := false, apart := false }
def FnExactDegreesOfSaid : Prop := fnExactDegreesOfRow.holds Try.pinned (OpenSpec.ofChange fnExactDegreesOfSpec)

/-- ITS FALSE NEIGHBOUR: 'it returns false'. Refute it at one input. -/
def fnExactDegreesOfWrong : ChangeSpec := { name := "fnExactDegreesOf", fn := fun _ => fun
  | [d] => { results := [.lit (.bool false)], args := [d] }
  | _ => none }
def FnExactDegreesOfWrongFalsely : Prop := fnExactDegreesOfRow.holds Try.pinned (OpenSpec.ofChange fnExactDegreesOfWrong)

/-- 'laws.FnExactPairsLeft': WHATEVER THE INPUT: true; the input reads as it did. -/
def fnExactPairsLeftSpec : ChangeSpec := { name := "fnExactPairsLeft", fn := fun _ => fun
  | [d] => { results := [.lit (.bool true)], args := [d] }
  | _ => none }
def fnExactPairsLeftRow : OpenClaim := { program := "ytomcjifklggcnaa", sum := "1aa8a5980555cf729fa93af7bc0730cada55bcda2cdb83021d30d0d84ee5ea0d", func := "loop.example/g01355/laws.FnExactPairsLeft", spec := "fnExactPairsLeft", plainKeys := false, apart := false }
def FnExactPairsLeftSaid : Prop := fnExactPairsLeftRow.holds Try.pinned (OpenSpec.ofChange fnExactPairsLeftSpec)

/-- ITS FALSE NEIGHBOUR: 'it returns false'. Refute it at one input. -/
def fnExactPairsLeftWrong : ChangeSpec := { name := "fnExactPairsLeft", fn := fun _ => fun
  | [d] => { results := [.lit (.bool false)], args := [d] }
  | _ => none }
def FnExactPairsLeftWrongFalsely : Prop := fnExactPairsLeftRow.holds Try.pinned (OpenSpec.ofChange fnExactPairsLeftWrong)

/-- 'laws.FnExactPutBlock': WHATEVER THE INPUT: true; the input reads as it did. -/
def fnExactPutBlockSpec : ChangeSpec := { name := "fnExactPutBlock", fn := fun _ => fun
  | [d1, d2] => { results := [.lit (.bool true)], args := [d1, d2] }
  | _ => none }
def fnExactPutBlockRow : OpenClaim := { program := "ytomcjifklggcnaa", sum := "1aa8a5980555cf729fa93af7bc0730cada55bcda2cdb83021d30d0d84ee5ea0d", func := "loop.example/g01355/laws.FnExactPutBlock", spec := "fnExactPutBlock", unfollowed := true, recurses := true, plainKeys := false, apart := false }
def FnExactPutBlockSaid : Prop := fnExactPutBlockRow.holds Try.pinned (OpenSpec.ofChange fnExactPutBlockSpec)

/-- ITS FALSE NEIGHBOUR: 'it returns false'. Refute it at one input. -/
def fnExactPutBlockWrong : ChangeSpec := { name := "fnExactPutBlock", fn := fun _ => fun
  | [d1, d2] => { results := [.lit (.bool false)], args := [d1, d2] }
  | _ => none }
def FnExactPutBlockWrongFalsely : Prop := fnExactPutBlockRow.holds Try.pinned (OpenSpec.ofChange fnExactPutBlockWrong)

/-- 'laws.FnExactTakeBlock': WHATEVER THE INPUT: true; the input reads as it did. -/
def fnExactTakeBlockSpec : ChangeSpec := { name := "fnExactTakeBlock", fn := fun _ => fun
  | [d1, d2] => { results := [.lit (.bool true)], args := [d1, d2] }
  | _ => none }
def fnExactTakeBlockRow : OpenClaim := { program := "ytomcjifklggcnaa", sum := "1aa8a5980555cf729fa93af7bc0730cada55bcda2cdb83021d30d0d84ee5ea0d", func := "loop.example/g01355/laws.FnExactTakeBlock", spec := "fnExactTakeBlock", plainKeys := false, apart := false }
def FnExactTakeBlockSaid : Prop := fnExactTakeBlockRow.holds Try.pinned (OpenSpec.ofChange fnExactTakeBlockSpec)

/-- ITS FALSE NEIGHBOUR: 'it returns false'. Refute it at one input. -/
def fnExactTakeBlockWrong : ChangeSpec := { name := "fnExactTakeBlock", fn := fun _ => fun
  | [d1, d2] => { results := [.lit (.bool false)], args := [d1, d2] }
  | _ => none }
def FnExactTakeBlockWrongFalsely : Prop := fnExactTakeBlockRow.holds Try.pinned (OpenSpec.ofChange fnExactTakeBlockWrong)

/-- 'laws.FnExactBlocksOn': WHATEVER THE INPUT: true; the input reads as it did. -/
def fnExactBlocksOnSpec : ChangeSpec := { name := "fnExactBlocksOn", fn := fun _ => fun
  | [d1, d2] => { results := [.lit (.bool true)], args := [d1, d2] }
  | _ => none }
def fnExactBlocksOnRow : OpenClaim := { program := "ytomcjifklggcnaa", sum := "1aa8a5980555cf729fa93af7bc0730cada55bcda2cdb83021d30d0d84ee5ea0d", func := "loop.example/g01355/laws.FnExactBlocksOn", spec := "fnExactBlocksOn", plainKeys := false, apart := false }
def FnExactBlocksOnSaid : Prop := fnExactBlocksOnRow.holds Try.pinned (OpenSpec.ofChange fnExactBlocksOnSpec)

/-- ITS FALSE NEIGHBOUR: 'it returns false'. Refute it at one input. -/
def fnExactBlocksOnWrong : ChangeSpec := { name := "fnExactBlocksOn", fn := fun _ => fun
  | [d1, d2] => { results := [.lit (.bool false)], args := [d1, d2] }
  | _ => none }
def FnExactBlocksOnWrongFalsely : Prop := fnExactBlocksOnRow.holds Try.pinned (OpenSpec.ofChange fnExactBlocksOnWrong)

/-- 'laws.FnExactRenumberSystem': WHATEVER THE INPUT: true; the input reads as it did. -/
def fnExactRenumberSystemSpec : ChangeSpec := { name := "fnExactRenumberSystem", fn := fun _ => fun
  | [d1, d2] => { results := [.lit (.bool true)], args := [d1, d2] }
  | _ => none }
def fnExactRenumberSystemRow : OpenClaim := { program := "ytomcjifklggcnaa", sum := "1aa8a5980555cf729fa93af7bc0730cada55bcda2cdb83021d30d0d84ee5ea0d", func := "loop.example/g01355/laws.FnExactRenumberSystem", spec := "fnExactRenumberSystem", unfollowed := true, recurses := true, plainKeys := false, apart := false }
def FnExactRenumberSystemSaid : Prop := fnExactRenumberSystemRow.holds Try.pinned (OpenSpec.ofChange fnExactRenumberSystemSpec)

/-- ITS FALSE NEIGHBOUR: 'it returns false'. Refute it at one input. -/
def fnExactRenumberSystemWrong : ChangeSpec := { name := "fnExactRenumberSystem", fn := fun _ => fun
  | [d1, d2] => { results := [.lit (.bool false)], args := [d1, d2] }
  | _ => none }
def FnExactRenumberSystemWrongFalsely : Prop := fnExactRenumberSystemRow.holds Try.pinned (OpenSpec.ofChange fnExactRenumberSystemWrong)

/-- 'laws.FnExactCommonBlocks': WHATEVER THE INPUT: true; the input reads as it did. -/
def fnExactCommonBlocksSpec : ChangeSpec := { name := "fnExactCommonBlocks", fn := fun _ => fun
  | [d1, d2] => { results := [.lit (.bool true)], args := [d1, d2] }
  | _ => none }
def fnExactCommonBlocksRow : OpenClaim := { program := "ytomcjifklggcnaa", sum := "1aa8a5980555cf729fa93af7bc0730cada55bcda2cdb83021d30d0d84ee5ea0d", func := "loop.example/g01355/laws.FnExactCommonBlocks", spec := "fnExactCommonBlocks", plainKeys := false, apart := false }
def FnExactCommonBlocksSaid : Prop := fnExactCommonBlocksRow.holds Try.pinned (OpenSpec.ofChange fnExactCommonBlocksSpec)

/-- ITS FALSE NEIGHBOUR: 'it returns false'. Refute it at one input. -/
def fnExactCommonBlocksWrong : ChangeSpec := { name := "fnExactCommonBlocks", fn := fun _ => fun
  | [d1, d2] => { results := [.lit (.bool false)], args := [d1, d2] }
  | _ => none }
def FnExactCommonBlocksWrongFalsely : Prop := fnExactCommonBlocksRow.holds Try.pinned (OpenSpec.ofChange fnExactCommonBlocksWrong)

/-- 'laws.FnExactFreeBlocks': WHATEVER THE INPUT: true; the input reads as it did. -/
def fnExactFreeBlocksSpec : ChangeSpec := { name := "fnExactFreeBlocks", fn := fun _ => fun
  | [d] => { results := [.lit (.bool true)], args := [d] }
  | _ => none }
def fnExactFreeBlocksRow : OpenClaim := { program := "ytomcjifklggcnaa", sum := "1aa8a5980555cf729fa93af7bc0730cada55bcda2cdb83021d30d0d84ee5ea0d", func := "loop.example/g01355/laws.FnExactFreeBlocks", spec := "fnExactFreeBlocks", unfollowed := true, recurses := true, plainKeys := false, apart := false }
def FnExactFreeBlocksSaid : Prop := fnExactFreeBlocksRow.holds Try.pinned (OpenSpec.ofChange fnExactFreeBlocksSpec)

/-- ITS FALSE NEIGHBOUR: 'it returns false'. Refute it at one input. -/
def fnExactFreeBlocksWrong : ChangeSpec := { name := "fnExactFreeBlocks", fn := fun _ => fun
  | [d] => { results := [.lit (.bool false)], args := [d] }
  | _ => none }
def FnExactFreeBlocksWrongFalsely : Prop := fnExactFreeBlocksRow.holds Try.pinned (OpenSpec.ofChange fnExactFreeBlocksWrong)

/-- 'laws.FnExactNamedSystem': WHATEVER THE INPUT: true; the input reads as it did. -/
def fnExactNamedSystemSpec : ChangeSpec := { name := "fnExactNamedSystem", fn := fun _ => fun
  | [d] => { results := [.lit (.bool true)], args := [d] }
  | _ => none }
def fnExactNamedSystemRow : OpenClaim := { program := "ytomcjifklggcnaa", sum := "1aa8a5980555cf729fa93af7bc0730cada55bcda2cdb83021d30d0d84ee5ea0d", func := "loop.example/g01355/laws.FnExactNamedSystem", spec := "fnExactNamedSystem", unfollowed := true, recurses := true, plainKeys := false, apart := false }
def FnExactNamedSystemSaid : Prop := fnExactNamedSystemRow.holds Try.pinned (OpenSpec.ofChange fnExactNamedSystemSpec)

/-- ITS FALSE NEIGHBOUR: 'it returns false'. Refute it at one input. -/
def fnExactNamedSystemWrong : ChangeSpec := { name := "fnExactNamedSystem", fn := fun _ => fun
  | [d] => { results := [.lit (.bool false)], args := [d] }
  | _ => none }
def FnExactNamedSystemWrongFalsely : Prop := fnExactNamedSystemRow.holds Try.pinned (OpenSpec.ofChange fnExactNamedSystemWrong)

/- THE SECOND FORM. 'bulk': how many values and letters a reading holds, each counted each time it is reached (what is shared counts as often as it is met; a slice's spare places count too). A statement '..UptoSaid' is the law's where the arguments, and the package variables that the reading takes, are together of bulk at most 1048576: NARROWER than '..Said'. Prove '..Said' where nothing that the law and all that it calls make is longer than what came in: it says more and counts as full. Else prove '..UptoSaid'. A law counts once. -/
mutual
def uptoBulk {H : Type} : DataW H → Nat
  | .lit (.string bytes) => bytes.length + 1
  | .lit _ => 1
  | .nil => 1
  | .ptr d => uptoBulk d + 1
  | .slice elems spare => uptoBulkAll elems + uptoBulkAll spare + 1
  | .agg parts => uptoBulkAll parts + 1
  | .iface _ d => uptoBulk d + 1
  | .map entries => uptoBulkEntries entries + 1
  | .held _ => 1
def uptoBulkAll {H : Type} : List (DataW H) → Nat
  | [] => 0
  | d :: r => uptoBulk d + uptoBulkAll r
def uptoBulkEntries {H : Type} : List (Lit × DataW H) → Nat
  | [] => 0
  | x :: r => uptoBulkEntry x + uptoBulkEntries r
def uptoBulkEntry {H : Type} : Lit × DataW H → Nat
  | (.string bytes, d) => bytes.length + uptoBulk d + 1
  | (_, d) => uptoBulk d + 1
 end
def uptoSmall : (H : Type) → List (DataW H) → Bool := fun _ ds => decide (uptoBulkAll ds ≤ 1048576)
def OpenSpec.upto (s : _root_.Go.ChangeSpec) : _root_.Go.OpenSpec := { _root_.Go.OpenSpec.ofChange s with cond := some uptoSmall }

/-- 'laws.FnExactIsSystem', WHERE WHAT IT READS IS OF BULK AT MOST 1048576: true; the input reads as it did. -/
def fnExactIsSystemUptoRow : OpenClaim := { program := "ytomcjifklggcnaa", sum := "1aa8a5980555cf729fa93af7bc0730cada55bcda2cdb83021d30d0d84ee5ea0d", func := "loop.example/g01355/laws.FnExactIsSystem", spec := "fnExactIsSystem", plainKeys := false, apart := false, narrowed := true }
def FnExactIsSystemUptoSaid : Prop := fnExactIsSystemUptoRow.holds Try.pinned (OpenSpec.upto fnExactIsSystemSpec)

/-- 'laws.FnExactSystemOf', WHERE WHAT IT READS IS OF BULK AT MOST 1048576: true; the input reads as it did. -/
def fnExactSystemOfUptoRow : OpenClaim := { program := "ytomcjifklggcnaa", sum := "1aa8a5980555cf729fa93af7bc0730cada55bcda2cdb83021d30d0d84ee5ea0d", func := "loop.example/g01355/laws.FnExactSystemOf", spec := "fnExactSystemOf", unfollowed := true, recurses := true, plainKeys := false, apart := false, narrowed := true }
def FnExactSystemOfUptoSaid : Prop := fnExactSystemOfUptoRow.holds Try.pinned (OpenSpec.upto fnExactSystemOfSpec)

/-- 'laws.FnExactIsFull', WHERE WHAT IT READS IS OF BULK AT MOST 1048576: true; the input reads as it did. -/
def fnExactIsFullUptoRow : OpenClaim := { program := "ytomcjifklggcnaa", sum := "1aa8a5980555cf729fa93af7bc0730cada55bcda2cdb83021d30d0d84ee5ea0d", func := "loop.example/g01355/laws.FnExactIsFull", spec := "fnExactIsFull", plainKeys := false, apart := false, narrowed := true }
def FnExactIsFullUptoSaid : Prop := fnExactIsFullUptoRow.holds Try.pinned (OpenSpec.upto fnExactIsFullSpec)

/-- 'laws.FnExactThirdPoint', WHERE WHAT IT READS IS OF BULK AT MOST 1048576: true; the input reads as it did. -/
def fnExactThirdPointUptoRow : OpenClaim := { program := "ytomcjifklggcnaa", sum := "1aa8a5980555cf729fa93af7bc0730cada55bcda2cdb83021d30d0d84ee5ea0d", func := "loop.example/g01355/laws.FnExactThirdPoint", spec := "fnExactThirdPoint", unfollowed := true, recurses := true, plainKeys := false, apart := false, narrowed := true }
def FnExactThirdPointUptoSaid : Prop := fnExactThirdPointUptoRow.holds Try.pinned (OpenSpec.upto fnExactThirdPointSpec)

/-- 'laws.FnExactBlocksAt', WHERE WHAT IT READS IS OF BULK AT MOST 1048576: true; the input reads as it did. -/
def fnExactBlocksAtUptoRow : OpenClaim := { program := "ytomcjifklggcnaa", sum := "1aa8a5980555cf729fa93af7bc0730cada55bcda2cdb83021d30d0d84ee5ea0d", func := "loop.example/g01355/laws.FnExactBlocksAt", spec := "fnExactBlocksAt", unfollowed := true, recurses := true, plainKeys := false, apart := false, narrowed := true }
def FnExactBlocksAtUptoSaid : Prop := fnExactBlocksAtUptoRow.holds Try.pinned (OpenSpec.upto fnExactBlocksAtSpec)

/-- 'laws.FnExactDegreesOf', WHERE WHAT IT READS IS OF BULK AT MOST 1048576: true; the input reads as it did. -/
def fnExactDegreesOfUptoRow : OpenClaim := { program := "ytomcjifklggcnaa", sum := "1aa8a5980555cf729fa93af7bc0730cada55bcda2cdb83021d30d0d84ee5ea0d", func := "loop.example/g01355/laws.FnExactDegreesOf", spec := "fnExactDegreesOf", unfollowed := true, recurses := true, plainKeys := false, apart := false, narrowed := true }
def FnExactDegreesOfUptoSaid : Prop := fnExactDegreesOfUptoRow.holds Try.pinned (OpenSpec.upto fnExactDegreesOfSpec)

/-- 'laws.FnExactPairsLeft', WHERE WHAT IT READS IS OF BULK AT MOST 1048576: true; the input reads as it did. -/
def fnExactPairsLeftUptoRow : OpenClaim := { program := "ytomcjifklggcnaa", sum := "1aa8a5980555cf729fa93af7bc0730cada55bcda2cdb83021d30d0d84ee5ea0d", func := "loop.example/g01355/laws.FnExactPairsLeft", spec := "fnExactPairsLeft", plainKeys := false, apart := false, narrowed := true }
def FnExactPairsLeftUptoSaid : Prop := fnExactPairsLeftUptoRow.holds Try.pinned (OpenSpec.upto fnExactPairsLeftSpec)

/-- 'laws.FnExactPutBlock', WHERE WHAT IT READS IS OF BULK AT MOST 1048576: true; the input reads as it did. -/
def fnExactPutBlockUptoRow : OpenClaim := { program := "ytomcjifklggcnaa", sum := "1aa8a5980555cf729fa93af7bc0730cada55bcda2cdb83021d30d0d84ee5ea0d", func := "loop.example/g01355/laws.FnExactPutBlock", spec := "fnExactPutBlock", unfollowed := true, recurses := true, plainKeys := false, apart := false, narrowed := true }
def FnExactPutBlockUptoSaid : Prop := fnExactPutBlockUptoRow.holds Try.pinned (OpenSpec.upto fnExactPutBlockSpec)

/-- 'laws.FnExactTakeBlock', WHERE WHAT IT READS IS OF BULK AT MOST 1048576: true; the input reads as it did. -/
def fnExactTakeBlockUptoRow : OpenClaim := { program := "ytomcjifklggcnaa", sum := "1aa8a5980555cf729fa93af7bc0730cada55bcda2cdb83021d30d0d84ee5ea0d", func := "loop.example/g01355/laws.FnExactTakeBlock", spec := "fnExactTakeBlock", plainKeys := false, apart := false, narrowed := true }
def FnExactTakeBlockUptoSaid : Prop := fnExactTakeBlockUptoRow.holds Try.pinned (OpenSpec.upto fnExactTakeBlockSpec)

/-- 'laws.FnExactBlocksOn', WHERE WHAT IT READS IS OF BULK AT MOST 1048576: true; the input reads as it did. -/
def fnExactBlocksOnUptoRow : OpenClaim := { program := "ytomcjifklggcnaa", sum := "1aa8a5980555cf729fa93af7bc0730cada55bcda2cdb83021d30d0d84ee5ea0d", func := "loop.example/g01355/laws.FnExactBlocksOn", spec := "fnExactBlocksOn", plainKeys := false, apart := false, narrowed := true }
def FnExactBlocksOnUptoSaid : Prop := fnExactBlocksOnUptoRow.holds Try.pinned (OpenSpec.upto fnExactBlocksOnSpec)

/-- 'laws.FnExactRenumberSystem', WHERE WHAT IT READS IS OF BULK AT MOST 1048576: true; the input reads as it did. -/
def fnExactRenumberSystemUptoRow : OpenClaim := { program := "ytomcjifklggcnaa", sum := "1aa8a5980555cf729fa93af7bc0730cada55bcda2cdb83021d30d0d84ee5ea0d", func := "loop.example/g01355/laws.FnExactRenumberSystem", spec := "fnExactRenumberSystem", unfollowed := true, recurses := true, plainKeys := false, apart := false, narrowed := true }
def FnExactRenumberSystemUptoSaid : Prop := fnExactRenumberSystemUptoRow.holds Try.pinned (OpenSpec.upto fnExactRenumberSystemSpec)

/-- 'laws.FnExactCommonBlocks', WHERE WHAT IT READS IS OF BULK AT MOST 1048576: true; the input reads as it did. -/
def fnExactCommonBlocksUptoRow : OpenClaim := { program := "ytomcjifklggcnaa", sum := "1aa8a5980555cf729fa93af7bc0730cada55bcda2cdb83021d30d0d84ee5ea0d", func := "loop.example/g01355/laws.FnExactCommonBlocks", spec := "fnExactCommonBlocks", plainKeys := false, apart := false, narrowed := true }
def FnExactCommonBlocksUptoSaid : Prop := fnExactCommonBlocksUptoRow.holds Try.pinned (OpenSpec.upto fnExactCommonBlocksSpec)

/-- 'laws.FnExactFreeBlocks', WHERE WHAT IT READS IS OF BULK AT MOST 1048576: true; the input reads as it did. -/
def fnExactFreeBlocksUptoRow : OpenClaim := { program := "ytomcjifklggcnaa", sum := "1aa8a5980555cf729fa93af7bc0730cada55bcda2cdb83021d30d0d84ee5ea0d", func := "loop.example/g01355/laws.FnExactFreeBlocks", spec := "fnExactFreeBlocks", unfollowed := true, recurses := true, plainKeys := false, apart := false, narrowed := true }
def FnExactFreeBlocksUptoSaid : Prop := fnExactFreeBlocksUptoRow.holds Try.pinned (OpenSpec.upto fnExactFreeBlocksSpec)

/-- 'laws.FnExactNamedSystem', WHERE WHAT IT READS IS OF BULK AT MOST 1048576: true; the input reads as it did. -/
def fnExactNamedSystemUptoRow : OpenClaim := { program := "ytomcjifklggcnaa", sum := "1aa8a5980555cf729fa93af7bc0730cada55bcda2cdb83021d30d0d84ee5ea0d", func := "loop.example/g01355/laws.FnExactNamedSystem", spec := "fnExactNamedSystem", unfollowed := true, recurses := true, plainKeys := false, apart := false, narrowed := true }
def FnExactNamedSystemUptoSaid : Prop := fnExactNamedSystemUptoRow.holds Try.pinned (OpenSpec.upto fnExactNamedSystemSpec)

end Rows
end Go.Proofs.Ytomcjifklggcnaa

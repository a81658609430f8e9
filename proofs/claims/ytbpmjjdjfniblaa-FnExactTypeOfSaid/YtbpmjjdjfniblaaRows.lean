/-
  No cell of these rows narrows 'for every input' (looked for: loops, veiled, ifaces, maps, wideKeys, modest, calm, conditions, laid).
  DERIVED. THE GIVEN ROWS OF THIS SEAT. 8 by the template 'for every input the law returns true; each argument reads behind the call as it read before'; 0 by the template 'total and deterministic' (their statements: YtbpmjjdjfniblaaTotals.lean).
  GIVEN WITH THE SEED: the statements are not yours to turn. If you find one false, say at which input.
  Laid BY PROGRAM, IN A SANDBOX (cutbox-rows.mjs): the forced cells as the released guide's own fill.sh prints them over the translation 05ea4cf48bfec13f… (all of the seat's roots in one cut). By AI agents, Wed Nov 11 2026. No macro, syntax, notation, axiom, sorry.
-/
import Derived.Test.YtbpmjjdjfniblaaChecked
import GoSem.Claim
import GoSem.ClaimJoined
import GoSem.ClaimMapViews
import Derived.JoinedTies
import Derived.KernelRfl
namespace Go.Proofs.Ytbpmjjdjfniblaa
/- THE CELL 'sum', in the pinned program and in every row, IS THE sha256 OF THE DUMP (.gsa) THAT YtbpmjjdjfniblaaProg.lean LOADS. Nothing in Lean hashes anything: it is a label: what it is worth is what the hold of that sum in a sandbox is worth. -/
noncomputable def Try.pinned : Pinned := { name := "ytbpmjjdjfniblaa", sum := "05ea4cf48bfec13fdfb86cb3fd9c1b6a57798a1507f840f535298d66aba48d31", checked := Try.checked }
namespace Rows
def none {H : Type} : Left H := { results := [], args := [] }

/-- 'laws.FnExactIsSquare': WHATEVER THE INPUT: true; the input reads as it did. -/
def fnExactIsSquareSpec : ChangeSpec := { name := "fnExactIsSquare", fn := fun _ => fun
  | [d] => { results := [.lit (.bool true)], args := [d] }
  | _ => none }
def fnExactIsSquareRow : OpenClaim := { program := "ytbpmjjdjfniblaa", sum := "05ea4cf48bfec13fdfb86cb3fd9c1b6a57798a1507f840f535298d66aba48d31", func := "loop.example/g01355/laws.FnExactIsSquare", spec := "fnExactIsSquare", unfollowed := true, recurses := true, plainKeys := false, apart := false }
def FnExactIsSquareSaid : Prop := fnExactIsSquareRow.holds Try.pinned (OpenSpec.ofChange fnExactIsSquareSpec)

/-- ITS FALSE NEIGHBOUR: 'it returns false'. Refute it at one input. -/
def fnExactIsSquareWrong : ChangeSpec := { name := "fnExactIsSquare", fn := fun _ => fun
  | [d] => { results := [.lit (.bool false)], args := [d] }
  | _ => none }
def FnExactIsSquareWrongFalsely : Prop := fnExactIsSquareRow.holds Try.pinned (OpenSpec.ofChange fnExactIsSquareWrong)

/-- 'laws.FnExactSquareKinds': WHATEVER THE INPUT: true; the input reads as it did. -/
def fnExactSquareKindsSpec : ChangeSpec := { name := "fnExactSquareKinds", fn := fun _ => fun
  | [d] => { results := [.lit (.bool true)], args := [d] }
  | _ => none }
def fnExactSquareKindsRow : OpenClaim := { program := "ytbpmjjdjfniblaa", sum := "05ea4cf48bfec13fdfb86cb3fd9c1b6a57798a1507f840f535298d66aba48d31", func := "loop.example/g01355/laws.FnExactSquareKinds", spec := "fnExactSquareKinds", unfollowed := true, recurses := true, plainKeys := false, apart := false }
def FnExactSquareKindsSaid : Prop := fnExactSquareKindsRow.holds Try.pinned (OpenSpec.ofChange fnExactSquareKindsSpec)

/-- ITS FALSE NEIGHBOUR: 'it returns false'. Refute it at one input. -/
def fnExactSquareKindsWrong : ChangeSpec := { name := "fnExactSquareKinds", fn := fun _ => fun
  | [d] => { results := [.lit (.bool false)], args := [d] }
  | _ => none }
def FnExactSquareKindsWrongFalsely : Prop := fnExactSquareKindsRow.holds Try.pinned (OpenSpec.ofChange fnExactSquareKindsWrong)

/-- 'laws.FnExactThreefoldSystem': WHATEVER THE INPUT: true; the input reads as it did. -/
def fnExactThreefoldSystemSpec : ChangeSpec := { name := "fnExactThreefoldSystem", fn := fun _ => fun
  | [d] => { results := [.lit (.bool true)], args := [d] }
  | _ => none }
def fnExactThreefoldSystemRow : OpenClaim := { program := "ytbpmjjdjfniblaa", sum := "05ea4cf48bfec13fdfb86cb3fd9c1b6a57798a1507f840f535298d66aba48d31", func := "loop.example/g01355/laws.FnExactThreefoldSystem", spec := "fnExactThreefoldSystem", unfollowed := true, recurses := true, plainKeys := false, apart := false }
def FnExactThreefoldSystemSaid : Prop := fnExactThreefoldSystemRow.holds Try.pinned (OpenSpec.ofChange fnExactThreefoldSystemSpec)

/-- ITS FALSE NEIGHBOUR: 'it returns false'. Refute it at one input. -/
def fnExactThreefoldSystemWrong : ChangeSpec := { name := "fnExactThreefoldSystem", fn := fun _ => fun
  | [d] => { results := [.lit (.bool false)], args := [d] }
  | _ => none }
def FnExactThreefoldSystemWrongFalsely : Prop := fnExactThreefoldSystemRow.holds Try.pinned (OpenSpec.ofChange fnExactThreefoldSystemWrong)

/-- 'laws.FnExactCyclesOf': WHATEVER THE INPUT: true; the input reads as it did. -/
def fnExactCyclesOfSpec : ChangeSpec := { name := "fnExactCyclesOf", fn := fun _ => fun
  | [d1, d2, d3] => { results := [.lit (.bool true)], args := [d1, d2, d3] }
  | _ => none }
def fnExactCyclesOfRow : OpenClaim := { program := "ytbpmjjdjfniblaa", sum := "05ea4cf48bfec13fdfb86cb3fd9c1b6a57798a1507f840f535298d66aba48d31", func := "loop.example/g01355/laws.FnExactCyclesOf", spec := "fnExactCyclesOf", plainKeys := false, apart := false }
def FnExactCyclesOfSaid : Prop := fnExactCyclesOfRow.holds Try.pinned (OpenSpec.ofChange fnExactCyclesOfSpec)

/-- ITS FALSE NEIGHBOUR: 'it returns false'. Refute it at one input. -/
def fnExactCyclesOfWrong : ChangeSpec := { name := "fnExactCyclesOf", fn := fun _ => fun
  | [d1, d2, d3] => { results := [.lit (.bool false)], args := [d1, d2, d3] }
  | _ => none }
def FnExactCyclesOfWrongFalsely : Prop := fnExactCyclesOfRow.holds Try.pinned (OpenSpec.ofChange fnExactCyclesOfWrong)

/-- 'laws.FnExactTypeOf': WHATEVER THE INPUT: true; the input reads as it did. -/
def fnExactTypeOfSpec : ChangeSpec := { name := "fnExactTypeOf", fn := fun _ => fun
  | [d1, d2, d3] => { results := [.lit (.bool true)], args := [d1, d2, d3] }
  | _ => none }
def fnExactTypeOfRow : OpenClaim := { program := "ytbpmjjdjfniblaa", sum := "05ea4cf48bfec13fdfb86cb3fd9c1b6a57798a1507f840f535298d66aba48d31", func := "loop.example/g01355/laws.FnExactTypeOf", spec := "fnExactTypeOf", recurses := true, plainKeys := false, apart := false }
def FnExactTypeOfSaid : Prop := fnExactTypeOfRow.holds Try.pinned (OpenSpec.ofChange fnExactTypeOfSpec)

/-- ITS FALSE NEIGHBOUR: 'it returns false'. Refute it at one input. -/
def fnExactTypeOfWrong : ChangeSpec := { name := "fnExactTypeOf", fn := fun _ => fun
  | [d1, d2, d3] => { results := [.lit (.bool false)], args := [d1, d2, d3] }
  | _ => none }
def FnExactTypeOfWrongFalsely : Prop := fnExactTypeOfRow.holds Try.pinned (OpenSpec.ofChange fnExactTypeOfWrong)

/-- 'laws.FnExactTypesOf': WHATEVER THE INPUT: true; the input reads as it did. -/
def fnExactTypesOfSpec : ChangeSpec := { name := "fnExactTypesOf", fn := fun _ => fun
  | [d] => { results := [.lit (.bool true)], args := [d] }
  | _ => none }
def fnExactTypesOfRow : OpenClaim := { program := "ytbpmjjdjfniblaa", sum := "05ea4cf48bfec13fdfb86cb3fd9c1b6a57798a1507f840f535298d66aba48d31", func := "loop.example/g01355/laws.FnExactTypesOf", spec := "fnExactTypesOf", unfollowed := true, recurses := true, plainKeys := false, apart := false }
def FnExactTypesOfSaid : Prop := fnExactTypesOfRow.holds Try.pinned (OpenSpec.ofChange fnExactTypesOfSpec)

/-- ITS FALSE NEIGHBOUR: 'it returns false'. Refute it at one input. -/
def fnExactTypesOfWrong : ChangeSpec := { name := "fnExactTypesOf", fn := fun _ => fun
  | [d] => { results := [.lit (.bool false)], args := [d] }
  | _ => none }
def FnExactTypesOfWrongFalsely : Prop := fnExactTypesOfRow.holds Try.pinned (OpenSpec.ofChange fnExactTypesOfWrong)

/-- 'laws.FnExactIsUniform': WHATEVER THE INPUT: true; the input reads as it did. -/
def fnExactIsUniformSpec : ChangeSpec := { name := "fnExactIsUniform", fn := fun _ => fun
  | [d] => { results := [.lit (.bool true)], args := [d] }
  | _ => none }
def fnExactIsUniformRow : OpenClaim := { program := "ytbpmjjdjfniblaa", sum := "05ea4cf48bfec13fdfb86cb3fd9c1b6a57798a1507f840f535298d66aba48d31", func := "loop.example/g01355/laws.FnExactIsUniform", spec := "fnExactIsUniform", unfollowed := true, recurses := true, plainKeys := false, apart := false }
def FnExactIsUniformSaid : Prop := fnExactIsUniformRow.holds Try.pinned (OpenSpec.ofChange fnExactIsUniformSpec)

/-- ITS FALSE NEIGHBOUR: 'it returns false'. Refute it at one input. -/
def fnExactIsUniformWrong : ChangeSpec := { name := "fnExactIsUniform", fn := fun _ => fun
  | [d] => { results := [.lit (.bool false)], args := [d] }
  | _ => none }
def FnExactIsUniformWrongFalsely : Prop := fnExactIsUniformRow.holds Try.pinned (OpenSpec.ofChange fnExactIsUniformWrong)

/-- 'laws.FnExactIsPerfect': WHATEVER THE INPUT: true; the input reads as it did. -/
def fnExactIsPerfectSpec : ChangeSpec := { name := "fnExactIsPerfect", fn := fun _ => fun
  | [d] => { results := [.lit (.bool true)], args := [d] }
  | _ => none }
def fnExactIsPerfectRow : OpenClaim := { program := "ytbpmjjdjfniblaa", sum := "05ea4cf48bfec13fdfb86cb3fd9c1b6a57798a1507f840f535298d66aba48d31", func := "loop.example/g01355/laws.FnExactIsPerfect", spec := "fnExactIsPerfect", unfollowed := true, recurses := true, plainKeys := false, apart := false }
def FnExactIsPerfectSaid : Prop := fnExactIsPerfectRow.holds Try.pinned (OpenSpec.ofChange fnExactIsPerfectSpec)

/-- ITS FALSE NEIGHBOUR: 'it returns false'. Refute it at one input. -/
def fnExactIsPerfectWrong : ChangeSpec := { name := "fnExactIsPerfect", fn := fun _ => fun
  | [d] => { results := [.lit (.bool false)], args := [d] }
  | _ => none }
def FnExactIsPerfectWrongFalsely : Prop := fnExactIsPerfectRow.holds Try.pinned (OpenSpec.ofChange fnExactIsPerfectWrong)

/- THE SECOND FORM. 'bulk': how many values and letters a reading holds, each counted each time it is reached (what is shared counts as often as it is met; a slice's spare places count too). A statement '..UptoSaid' is the law's where the arguments, and the package variables that the reading takes, are together of bulk at most 1048576: NARROWER than '..Said'. Prove '..Said' where nothing that the law and all that it calls make is longer than what came in: it says more and counts as full. Else prove '..UptoSaid'. A law counts once. -/
mutual
def uptoBulk {H : Type} : DataW H → Nat
  | .lit (.string bytes) => bytes.length + 1
  | .lit _ => 1
  | .nil => 1
  | .ptr d => uptoBulk d + 1
  | .slice elems spare => uptoBulkAll elems + uptoBulkAll spare + 1
  | .agg parts => uptoBulkAll parts + 1
  | .iface _ d => uptoBulk d + 1
  | .map entries => uptoBulkEntries entries + 1
  | .held _ => 1
def uptoBulkAll {H : Type} : List (DataW H) → Nat
  | [] => 0
  | d :: r => uptoBulk d + uptoBulkAll r
def uptoBulkEntries {H : Type} : List (Lit × DataW H) → Nat
  | [] => 0
  | x :: r => uptoBulkEntry x + uptoBulkEntries r
def uptoBulkEntry {H : Type} : Lit × DataW H → Nat
  | (.string bytes, d) => bytes.length + uptoBulk d + 1
  | (_, d) => uptoBulk d + 1
 end
def uptoSmall : (H : Type) → List (DataW H) → Bool := fun _ ds => decide (uptoBulkAll ds ≤ 1048576)
def OpenSpec.upto (s : _root_.Go.ChangeSpec) : _root_.Go.OpenSpec := { _root_.Go.OpenSpec.ofChange s with cond := some uptoSmall }

/-- 'laws.FnExactIsSquare', WHERE WHAT IT READS IS OF BULK AT MOST 1048576: true; the input reads as it did. -/
def fnExactIsSquareUptoRow : OpenClaim := { program := "ytbpmjjdjfniblaa", sum := "05ea4cf48bfec13fdfb86cb3fd9c1b6a57798a1507f840f535298d66aba48d31", func := "loop.example/g01355/laws.FnExactIsSquare", spec := "fnExactIsSquare", unfollowed := true, recurses := true, plainKeys := false, apart := false, narrowed := true }
def FnExactIsSquareUptoSaid : Prop := fnExactIsSquareUptoRow.holds Try.pinned (OpenSpec.upto fnExactIsSquareSpec)

/-- 'laws.FnExactSquareKinds', WHERE WHAT IT READS IS OF BULK AT MOST 1048576: true; the input reads as it did. -/
def fnExactSquareKindsUptoRow : OpenClaim := { program := "ytbpmjjdjfniblaa", sum := "05ea4cf48bfec13fdfb86cb3fd9c1b6a57798a1507f840f535298d66aba48d31", func := "loop.example/g01355/laws.FnExactSquareKinds", spec := "fnExactSquareKinds", unfollowed := true, recurses := true, plainKeys := false, apart := false, narrowed := true }
def FnExactSquareKindsUptoSaid : Prop := fnExactSquareKindsUptoRow.holds Try.pinned (OpenSpec.upto fnExactSquareKindsSpec)

/-- 'laws.FnExactThreefoldSystem', WHERE WHAT IT READS IS OF BULK AT MOST 1048576: true; the input reads as it did. -/
def fnExactThreefoldSystemUptoRow : OpenClaim := { program := "ytbpmjjdjfniblaa", sum := "05ea4cf48bfec13fdfb86cb3fd9c1b6a57798a1507f840f535298d66aba48d31", func := "loop.example/g01355/laws.FnExactThreefoldSystem", spec := "fnExactThreefoldSystem", unfollowed := true, recurses := true, plainKeys := false, apart := false, narrowed := true }
def FnExactThreefoldSystemUptoSaid : Prop := fnExactThreefoldSystemUptoRow.holds Try.pinned (OpenSpec.upto fnExactThreefoldSystemSpec)

/-- 'laws.FnExactCyclesOf', WHERE WHAT IT READS IS OF BULK AT MOST 1048576: true; the input reads as it did. -/
def fnExactCyclesOfUptoRow : OpenClaim := { program := "ytbpmjjdjfniblaa", sum := "05ea4cf48bfec13fdfb86cb3fd9c1b6a57798a1507f840f535298d66aba48d31", func := "loop.example/g01355/laws.FnExactCyclesOf", spec := "fnExactCyclesOf", plainKeys := false, apart := false, narrowed := true }
def FnExactCyclesOfUptoSaid : Prop := fnExactCyclesOfUptoRow.holds Try.pinned (OpenSpec.upto fnExactCyclesOfSpec)

/-- 'laws.FnExactTypeOf', WHERE WHAT IT READS IS OF BULK AT MOST 1048576: true; the input reads as it did. -/
def fnExactTypeOfUptoRow : OpenClaim := { program := "ytbpmjjdjfniblaa", sum := "05ea4cf48bfec13fdfb86cb3fd9c1b6a57798a1507f840f535298d66aba48d31", func := "loop.example/g01355/laws.FnExactTypeOf", spec := "fnExactTypeOf", recurses := true, plainKeys := false, apart := false, narrowed := true }
def FnExactTypeOfUptoSaid : Prop := fnExactTypeOfUptoRow.holds Try.pinned (OpenSpec.upto fnExactTypeOfSpec)

/-- 'laws.FnExactTypesOf', WHERE WHAT IT READS IS OF BULK AT MOST 1048576: true; the input reads as it did. -/
def fnExactTypesOfUptoRow : OpenClaim := { program := "ytbpmjjdjfniblaa", sum := "05ea4cf48bfec13fdfb86cb3fd9c1b6a57798a1507f840f535298d66aba48d31", func := "loop.example/g01355/laws.FnExactTypesOf", spec := "fnExactTypesOf", unfollowed := true, recurses := true, plainKeys := false, apart := false, narrowed := true }
def FnExactTypesOfUptoSaid : Prop := fnExactTypesOfUptoRow.holds Try.pinned (OpenSpec.upto fnExactTypesOfSpec)

/-- 'laws.FnExactIsUniform', WHERE WHAT IT READS IS OF BULK AT MOST 1048576: true; the input reads as it did. -/
def fnExactIsUniformUptoRow : OpenClaim := { program := "ytbpmjjdjfniblaa", sum := "05ea4cf48bfec13fdfb86cb3fd9c1b6a57798a1507f840f535298d66aba48d31", func := "loop.example/g01355/laws.FnExactIsUniform", spec := "fnExactIsUniform", unfollowed := true, recurses := true, plainKeys := false, apart := false, narrowed := true }
def FnExactIsUniformUptoSaid : Prop := fnExactIsUniformUptoRow.holds Try.pinned (OpenSpec.upto fnExactIsUniformSpec)

/-- 'laws.FnExactIsPerfect', WHERE WHAT IT READS IS OF BULK AT MOST 1048576: true; the input reads as it did. -/
def fnExactIsPerfectUptoRow : OpenClaim := { program := "ytbpmjjdjfniblaa", sum := "05ea4cf48bfec13fdfb86cb3fd9c1b6a57798a1507f840f535298d66aba48d31", func := "loop.example/g01355/laws.FnExactIsPerfect", spec := "fnExactIsPerfect", unfollowed := true, recurses := true, plainKeys := false, apart := false, narrowed := true }
def FnExactIsPerfectUptoSaid : Prop := fnExactIsPerfectUptoRow.holds Try.pinned (OpenSpec.upto fnExactIsPerfectSpec)

end Rows
end Go.Proofs.Ytbpmjjdjfniblaa

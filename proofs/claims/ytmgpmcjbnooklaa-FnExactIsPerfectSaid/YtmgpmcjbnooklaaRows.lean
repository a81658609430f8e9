/-
  No cell of these rows narrows 'for every input' (looked for: loops, veiled, ifaces, maps, wideKeys, modest, calm, conditions, laid).
  DERIVED. THE GIVEN ROWS OF THIS SEAT. 6 by the template 'for every input the law returns true; each argument reads behind the call as it read before'; 0 by the template 'total and deterministic' (their statements: YtmgpmcjbnooklaaTotals.lean).
  GIVEN WITH THE SEED: the statements are not yours to turn. If you find one false, say at which input.
  Laid BY PROGRAM, IN A SANDBOX (cutbox-rows.mjs): the forced cells as the released guide's own fill.sh prints them over the translation 048d576f660253b5… (all of the seat's roots in one cut). By AI agents, Wed Nov 11 2026. No macro, syntax, notation, axiom, sorry.
-/
import Derived.Test.YtmgpmcjbnooklaaChecked
import GoSem.Claim
import GoSem.ClaimJoined
import GoSem.ClaimMapViews
import Derived.JoinedTies
import Derived.KernelRfl
namespace Go.Proofs.Ytmgpmcjbnooklaa
/- THE CELL 'sum', in the pinned program and in every row, IS THE sha256 OF THE DUMP (.gsa) THAT YtmgpmcjbnooklaaProg.lean LOADS. Nothing in Lean hashes anything: it is a label: what it is worth is what the hold of that sum in a sandbox is worth. -/
noncomputable def Try.pinned : Pinned := { name := "ytmgpmcjbnooklaa", sum := "048d576f660253b5f57d1c6422c2fc9661397088ca0bb7d1be16fbec93e56263", checked := Try.checked }
namespace Rows
def none {H : Type} : Left H := { results := [], args := [] }

/-- 'laws.FnExactDegreesOf': WHATEVER THE INPUT: true; the input reads as it did. -/
def fnExactDegreesOfSpec : ChangeSpec := { name := "fnExactDegreesOf", fn := fun _ => fun
  | [d] => { results := [.lit (.bool true)], args := [d] }
  | _ => none }
def fnExactDegreesOfRow : OpenClaim := { program := "ytmgpmcjbnooklaa", sum := "048d576f660253b5f57d1c6422c2fc9661397088ca0bb7d1be16fbec93e56263", func := "loop.example/g01355/laws.FnExactDegreesOf", spec := "fnExactDegreesOf", unfollowed := true, recurses := true, plainKeys := false, apart := false }
def FnExactDegreesOfSaid : Prop := fnExactDegreesOfRow.holds Try.pinned (OpenSpec.ofChange fnExactDegreesOfSpec)

/-- ITS FALSE NEIGHBOUR: 'it returns false'. Refute it at one input. -/
def fnExactDegreesOfWrong : ChangeSpec := { name := "fnExactDegreesOf", fn := fun _ => fun
  | [d] => { results := [.lit (.bool false)], args := [d] }
  | _ => none }
def FnExactDegreesOfWrongFalsely : Prop := fnExactDegreesOfRow.holds Try.pinned (OpenSpec.ofChange fnExactDegreesOfWrong)

/-- 'laws.FnExactCycleTrade': WHATEVER THE INPUT: true; the input reads as it did. -/
def fnExactCycleTradeSpec : ChangeSpec := { name := "fnExactCycleTrade", fn := fun _ => fun
  | [d1, d2, d3, d4] => { results := [.lit (.bool true)], args := [d1, d2, d3, d4] }
  | _ => none }
def fnExactCycleTradeRow : OpenClaim := { program := "ytmgpmcjbnooklaa", sum := "048d576f660253b5f57d1c6422c2fc9661397088ca0bb7d1be16fbec93e56263", func := "loop.example/g01355/laws.FnExactCycleTrade", spec := "fnExactCycleTrade", unfollowed := true, recurses := true, plainKeys := false, apart := false }
def FnExactCycleTradeSaid : Prop := fnExactCycleTradeRow.holds Try.pinned (OpenSpec.ofChange fnExactCycleTradeSpec)

/-- ITS FALSE NEIGHBOUR: 'it returns false'. Refute it at one input. -/
def fnExactCycleTradeWrong : ChangeSpec := { name := "fnExactCycleTrade", fn := fun _ => fun
  | [d1, d2, d3, d4] => { results := [.lit (.bool false)], args := [d1, d2, d3, d4] }
  | _ => none }
def FnExactCycleTradeWrongFalsely : Prop := fnExactCycleTradeRow.holds Try.pinned (OpenSpec.ofChange fnExactCycleTradeWrong)

/-- 'laws.FnExactCyclicSystem': WHATEVER THE INPUT: true; the input reads as it did. -/
def fnExactCyclicSystemSpec : ChangeSpec := { name := "fnExactCyclicSystem", fn := fun _ => fun
  | [d1, d2] => { results := [.lit (.bool true)], args := [d1, d2] }
  | _ => none }
def fnExactCyclicSystemRow : OpenClaim := { program := "ytmgpmcjbnooklaa", sum := "048d576f660253b5f57d1c6422c2fc9661397088ca0bb7d1be16fbec93e56263", func := "loop.example/g01355/laws.FnExactCyclicSystem", spec := "fnExactCyclicSystem", unfollowed := true, recurses := true, plainKeys := false, apart := false }
def FnExactCyclicSystemSaid : Prop := fnExactCyclicSystemRow.holds Try.pinned (OpenSpec.ofChange fnExactCyclicSystemSpec)

/-- ITS FALSE NEIGHBOUR: 'it returns false'. Refute it at one input. -/
def fnExactCyclicSystemWrong : ChangeSpec := { name := "fnExactCyclicSystem", fn := fun _ => fun
  | [d1, d2] => { results := [.lit (.bool false)], args := [d1, d2] }
  | _ => none }
def FnExactCyclicSystemWrongFalsely : Prop := fnExactCyclicSystemRow.holds Try.pinned (OpenSpec.ofChange fnExactCyclicSystemWrong)

/-- 'laws.FnExactTypesOf': WHATEVER THE INPUT: true; the input reads as it did. -/
def fnExactTypesOfSpec : ChangeSpec := { name := "fnExactTypesOf", fn := fun _ => fun
  | [d] => { results := [.lit (.bool true)], args := [d] }
  | _ => none }
def fnExactTypesOfRow : OpenClaim := { program := "ytmgpmcjbnooklaa", sum := "048d576f660253b5f57d1c6422c2fc9661397088ca0bb7d1be16fbec93e56263", func := "loop.example/g01355/laws.FnExactTypesOf", spec := "fnExactTypesOf", unfollowed := true, recurses := true, plainKeys := false, apart := false }
def FnExactTypesOfSaid : Prop := fnExactTypesOfRow.holds Try.pinned (OpenSpec.ofChange fnExactTypesOfSpec)

/-- ITS FALSE NEIGHBOUR: 'it returns false'. Refute it at one input. -/
def fnExactTypesOfWrong : ChangeSpec := { name := "fnExactTypesOf", fn := fun _ => fun
  | [d] => { results := [.lit (.bool false)], args := [d] }
  | _ => none }
def FnExactTypesOfWrongFalsely : Prop := fnExactTypesOfRow.holds Try.pinned (OpenSpec.ofChange fnExactTypesOfWrong)

/-- 'laws.FnExactIsUniform': WHATEVER THE INPUT: true; the input reads as it did. -/
def fnExactIsUniformSpec : ChangeSpec := { name := "fnExactIsUniform", fn := fun _ => fun
  | [d] => { results := [.lit (.bool true)], args := [d] }
  | _ => none }
def fnExactIsUniformRow : OpenClaim := { program := "ytmgpmcjbnooklaa", sum := "048d576f660253b5f57d1c6422c2fc9661397088ca0bb7d1be16fbec93e56263", func := "loop.example/g01355/laws.FnExactIsUniform", spec := "fnExactIsUniform", unfollowed := true, recurses := true, plainKeys := false, apart := false }
def FnExactIsUniformSaid : Prop := fnExactIsUniformRow.holds Try.pinned (OpenSpec.ofChange fnExactIsUniformSpec)

/-- ITS FALSE NEIGHBOUR: 'it returns false'. Refute it at one input. -/
def fnExactIsUniformWrong : ChangeSpec := { name := "fnExactIsUniform", fn := fun _ => fun
  | [d] => { results := [.lit (.bool false)], args := [d] }
  | _ => none }
def FnExactIsUniformWrongFalsely : Prop := fnExactIsUniformRow.holds Try.pinned (OpenSpec.ofChange fnExactIsUniformWrong)

/-- 'laws.FnExactIsPerfect': WHATEVER THE INPUT: true; the input reads as it did. -/
def fnExactIsPerfectSpec : ChangeSpec := { name := "fnExactIsPerfect", fn := fun _ => fun
  | [d] => { results := [.lit (.bool true)], args := [d] }
  | _ => none }
def fnExactIsPerfectRow : OpenClaim := { program := "ytmgpmcjbnooklaa", sum := "048d576f660253b5f57d1c6422c2fc9661397088ca0bb7d1be16fbec93e56263", func := "loop.example/g01355/laws.FnExactIsPerfect", spec := "fnExactIsPerfect", unfollowed := true, recurses := true, plainKeys := false, apart := false }
def FnExactIsPerfectSaid : Prop := fnExactIsPerfectRow.holds Try.pinned (OpenSpec.ofChange fnExactIsPerfectSpec)

/-- ITS FALSE NEIGHBOUR: 'it returns false'. Refute it at one input. -/
def fnExactIsPerfectWrong : ChangeSpec := { name := "fnExactIsPerfect", fn := fun _ => fun
  | [d] => { results := [.lit (.bool false)], args := [d] }
  | _ => none }
def FnExactIsPerfectWrongFalsely : Prop := fnExactIsPerfectRow.holds Try.pinned (OpenSpec.ofChange fnExactIsPerfectWrong)

/- THE SECOND FORM. 'bulk': how many values and letters a reading holds, each counted each time it is reached (what is shared counts as often as it is met; a slice's spare places count too). A statement '..UptoSaid' is the law's where the arguments, and the package variables that the reading takes, are together of bulk at most 1048576: NARROWER than '..Said'. Prove '..Said' where nothing that the law and all that it calls make is longer than what came in: it says more and counts as full. Else prove '..UptoSaid'. A law counts once. -/
mutual
def uptoBulk {H : Type} : DataW H → Nat
  | .lit (.string bytes) => bytes.length + 1
  | .lit _ => 1
  | .nil => 1
  | .ptr d => uptoBulk d + 1
  | .slice elems spare => uptoBulkAll elems + uptoBulkAll spare + 1
  | .agg parts => uptoBulkAll parts + 1
  | .iface _ d => uptoBulk d + 1
  | .map entries => uptoBulkEntries entries + 1
  | .held _ => 1
def uptoBulkAll {H : Type} : List (DataW H) → Nat
  | [] => 0
  | d :: r => uptoBulk d + uptoBulkAll r
def uptoBulkEntries {H : Type} : List (Lit × DataW H) → Nat
  | [] => 0
  | x :: r => uptoBulkEntry x + uptoBulkEntries r
def uptoBulkEntry {H : Type} : Lit × DataW H → Nat
  | (.string bytes, d) => bytes.length + uptoBulk d + 1
  | (_, d) => uptoBulk d + 1
 end
def uptoSmall : (H : Type) → List (DataW H) → Bool := fun _ ds => decide (uptoBulkAll ds ≤ 1048576)
def OpenSpec.upto (s : _root_.Go.ChangeSpec) : _root_.Go.OpenSpec := { _root_.Go.OpenSpec.ofChange s with cond := some uptoSmall }

/-- 'laws.FnExactDegreesOf', WHERE WHAT IT READS IS OF BULK AT MOST 1048576: true; the input reads as it did. -/
def fnExactDegreesOfUptoRow : OpenClaim := { program := "ytmgpmcjbnooklaa", sum := "048d576f660253b5f57d1c6422c2fc9661397088ca0bb7d1be16fbec93e56263", func := "loop.example/g01355/laws.FnExactDegreesOf", spec := "fnExactDegreesOf", unfollowed := true, recurses := true, plainKeys := false, apart := false, narrowed := true }
def FnExactDegreesOfUptoSaid : Prop := fnExactDegreesOfUptoRow.holds Try.pinned (OpenSpec.upto fnExactDegreesOfSpec)

/-- 'laws.FnExactCycleTrade', WHERE WHAT IT READS IS OF BULK AT MOST 1048576: true; the input reads as it did. -/
def fnExactCycleTradeUptoRow : OpenClaim := { program := "ytmgpmcjbnooklaa", sum := "048d576f660253b5f57d1c6422c2fc9661397088ca0bb7d1be16fbec93e56263", func := "loop.example/g01355/laws.FnExactCycleTrade", spec := "fnExactCycleTrade", unfollowed := true, recurses := true, plainKeys := false, apart := false, narrowed := true }
def FnExactCycleTradeUptoSaid : Prop := fnExactCycleTradeUptoRow.holds Try.pinned (OpenSpec.upto fnExactCycleTradeSpec)

/-- 'laws.FnExactCyclicSystem', WHERE WHAT IT READS IS OF BULK AT MOST 1048576: true; the input reads as it did. -/
def fnExactCyclicSystemUptoRow : OpenClaim := { program := "ytmgpmcjbnooklaa", sum := "048d576f660253b5f57d1c6422c2fc9661397088ca0bb7d1be16fbec93e56263", func := "loop.example/g01355/laws.FnExactCyclicSystem", spec := "fnExactCyclicSystem", unfollowed := true, recurses := true, plainKeys := false, apart := false, narrowed := true }
def FnExactCyclicSystemUptoSaid : Prop := fnExactCyclicSystemUptoRow.holds Try.pinned (OpenSpec.upto fnExactCyclicSystemSpec)

/-- 'laws.FnExactTypesOf', WHERE WHAT IT READS IS OF BULK AT MOST 1048576: true; the input reads as it did. -/
def fnExactTypesOfUptoRow : OpenClaim := { program := "ytmgpmcjbnooklaa", sum := "048d576f660253b5f57d1c6422c2fc9661397088ca0bb7d1be16fbec93e56263", func := "loop.example/g01355/laws.FnExactTypesOf", spec := "fnExactTypesOf", unfollowed := true, recurses := true, plainKeys := false, apart := false, narrowed := true }
def FnExactTypesOfUptoSaid : Prop := fnExactTypesOfUptoRow.holds Try.pinned (OpenSpec.upto fnExactTypesOfSpec)

/-- 'laws.FnExactIsUniform', WHERE WHAT IT READS IS OF BULK AT MOST 1048576: true; the input reads as it did. -/
def fnExactIsUniformUptoRow : OpenClaim := { program := "ytmgpmcjbnooklaa", sum := "048d576f660253b5f57d1c6422c2fc9661397088ca0bb7d1be16fbec93e56263", func := "loop.example/g01355/laws.FnExactIsUniform", spec := "fnExactIsUniform", unfollowed := true, recurses := true, plainKeys := false, apart := false, narrowed := true }
def FnExactIsUniformUptoSaid : Prop := fnExactIsUniformUptoRow.holds Try.pinned (OpenSpec.upto fnExactIsUniformSpec)

/-- 'laws.FnExactIsPerfect', WHERE WHAT IT READS IS OF BULK AT MOST 1048576: true; the input reads as it did. -/
def fnExactIsPerfectUptoRow : OpenClaim := { program := "ytmgpmcjbnooklaa", sum := "048d576f660253b5f57d1c6422c2fc9661397088ca0bb7d1be16fbec93e56263", func := "loop.example/g01355/laws.FnExactIsPerfect", spec := "fnExactIsPerfect", unfollowed := true, recurses := true, plainKeys := false, apart := false, narrowed := true }
def FnExactIsPerfectUptoSaid : Prop := fnExactIsPerfectUptoRow.holds Try.pinned (OpenSpec.upto fnExactIsPerfectSpec)

end Rows
end Go.Proofs.Ytmgpmcjbnooklaa

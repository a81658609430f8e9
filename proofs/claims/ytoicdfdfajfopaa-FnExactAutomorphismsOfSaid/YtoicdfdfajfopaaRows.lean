/-
  No cell of these rows narrows 'for every input' (looked for: loops, veiled, ifaces, maps, wideKeys, modest, calm, conditions, laid).
  DERIVED. THE GIVEN ROWS OF THIS SEAT. 12 by the template 'for every input the law returns true; each argument reads behind the call as it read before'; 0 by the template 'total and deterministic' (their statements: YtoicdfdfajfopaaTotals.lean).
  GIVEN WITH THE SEED: the statements are not yours to turn. If you find one false, say at which input.
  Laid BY PROGRAM, IN A SANDBOX (cutbox-rows.mjs): the forced cells as the released guide's own fill.sh prints them over the translation 6bfa3b6dcf2483de… (all of the seat's roots in one cut). By AI agents, Wed Nov 11 2026. No macro, syntax, notation, axiom, sorry.
-/
import Derived.Test.YtoicdfdfajfopaaChecked
import GoSem.Claim
import GoSem.ClaimJoined
import GoSem.ClaimMapViews
import Derived.JoinedTies
import Derived.KernelRfl
namespace Go.Proofs.Ytoicdfdfajfopaa
/- THE CELL 'sum', in the pinned program and in every row, IS THE sha256 OF THE DUMP (.gsa) THAT YtoicdfdfajfopaaProg.lean LOADS. Nothing in Lean hashes anything: it is a label: what it is worth is what the hold of that sum in a sandbox is worth. -/
noncomputable def Try.pinned : Pinned := { name := "ytoicdfdfajfopaa", sum := "6bfa3b6dcf2483de2dd7b544b3163b54c3ce8a8dbecfbee094b9f787517db480", checked := Try.checked }
namespace Rows
def none {H : Type} : Left H := { results := [], args := [] }

/-- 'laws.FnExactLeadsTo': WHATEVER THE INPUT: true; the input reads as it did. -/
def fnExactLeadsToSpec : ChangeSpec := { name := "fnExactLeadsTo", fn := fun _ => fun
  | [d1, d2, d3] => { results := [.lit (.bool true)], args := [d1, d2, d3] }
  | _ => none }
def fnExactLeadsToRow : OpenClaim := { program := "ytoicdfdfajfopaa", sum := "6bfa3b6dcf2483de2dd7b544b3163b54c3ce8a8dbecfbee094b9f787517db480", func := "loop.example/g01355/laws.FnExactLeadsTo", spec := "fnExactLeadsTo", unfollowed := true, recurses := true, plainKeys := false, apart := false }
def FnExactLeadsToSaid : Prop := fnExactLeadsToRow.holds Try.pinned (OpenSpec.ofChange fnExactLeadsToSpec)

/-- ITS FALSE NEIGHBOUR: 'it returns false'. Refute it at one input. -/
def fnExactLeadsToWrong : ChangeSpec := { name := "fnExactLeadsTo", fn := fun _ => fun
  | [d1, d2, d3] => { results := [.lit (.bool false)], args := [d1, d2, d3] }
  | _ => none }
def FnExactLeadsToWrongFalsely : Prop := fnExactLeadsToRow.holds Try.pinned (OpenSpec.ofChange fnExactLeadsToWrong)

/-- 'laws.FnExactFindRenumbering': WHATEVER THE INPUT: true; the input reads as it did. -/
def fnExactFindRenumberingSpec : ChangeSpec := { name := "fnExactFindRenumbering", fn := fun _ => fun
  | [d1, d2] => { results := [.lit (.bool true)], args := [d1, d2] }
  | _ => none }
def fnExactFindRenumberingRow : OpenClaim := { program := "ytoicdfdfajfopaa", sum := "6bfa3b6dcf2483de2dd7b544b3163b54c3ce8a8dbecfbee094b9f787517db480", func := "loop.example/g01355/laws.FnExactFindRenumbering", spec := "fnExactFindRenumbering", unfollowed := true, recurses := true, plainKeys := false, apart := false }
def FnExactFindRenumberingSaid : Prop := fnExactFindRenumberingRow.holds Try.pinned (OpenSpec.ofChange fnExactFindRenumberingSpec)

/-- ITS FALSE NEIGHBOUR: 'it returns false'. Refute it at one input. -/
def fnExactFindRenumberingWrong : ChangeSpec := { name := "fnExactFindRenumbering", fn := fun _ => fun
  | [d1, d2] => { results := [.lit (.bool false)], args := [d1, d2] }
  | _ => none }
def FnExactFindRenumberingWrongFalsely : Prop := fnExactFindRenumberingRow.holds Try.pinned (OpenSpec.ofChange fnExactFindRenumberingWrong)

/-- 'laws.FnExactAreIsomorphic': WHATEVER THE INPUT: true; the input reads as it did. -/
def fnExactAreIsomorphicSpec : ChangeSpec := { name := "fnExactAreIsomorphic", fn := fun _ => fun
  | [d1, d2] => { results := [.lit (.bool true)], args := [d1, d2] }
  | _ => none }
def fnExactAreIsomorphicRow : OpenClaim := { program := "ytoicdfdfajfopaa", sum := "6bfa3b6dcf2483de2dd7b544b3163b54c3ce8a8dbecfbee094b9f787517db480", func := "loop.example/g01355/laws.FnExactAreIsomorphic", spec := "fnExactAreIsomorphic", unfollowed := true, recurses := true, plainKeys := false, apart := false }
def FnExactAreIsomorphicSaid : Prop := fnExactAreIsomorphicRow.holds Try.pinned (OpenSpec.ofChange fnExactAreIsomorphicSpec)

/-- ITS FALSE NEIGHBOUR: 'it returns false'. Refute it at one input. -/
def fnExactAreIsomorphicWrong : ChangeSpec := { name := "fnExactAreIsomorphic", fn := fun _ => fun
  | [d1, d2] => { results := [.lit (.bool false)], args := [d1, d2] }
  | _ => none }
def FnExactAreIsomorphicWrongFalsely : Prop := fnExactAreIsomorphicRow.holds Try.pinned (OpenSpec.ofChange fnExactAreIsomorphicWrong)

/-- 'laws.FnExactCountAutomorphisms': WHATEVER THE INPUT: true; the input reads as it did. -/
def fnExactCountAutomorphismsSpec : ChangeSpec := { name := "fnExactCountAutomorphisms", fn := fun _ => fun
  | [d] => { results := [.lit (.bool true)], args := [d] }
  | _ => none }
def fnExactCountAutomorphismsRow : OpenClaim := { program := "ytoicdfdfajfopaa", sum := "6bfa3b6dcf2483de2dd7b544b3163b54c3ce8a8dbecfbee094b9f787517db480", func := "loop.example/g01355/laws.FnExactCountAutomorphisms", spec := "fnExactCountAutomorphisms", unfollowed := true, recurses := true, plainKeys := false, apart := false }
def FnExactCountAutomorphismsSaid : Prop := fnExactCountAutomorphismsRow.holds Try.pinned (OpenSpec.ofChange fnExactCountAutomorphismsSpec)

/-- ITS FALSE NEIGHBOUR: 'it returns false'. Refute it at one input. -/
def fnExactCountAutomorphismsWrong : ChangeSpec := { name := "fnExactCountAutomorphisms", fn := fun _ => fun
  | [d] => { results := [.lit (.bool false)], args := [d] }
  | _ => none }
def FnExactCountAutomorphismsWrongFalsely : Prop := fnExactCountAutomorphismsRow.holds Try.pinned (OpenSpec.ofChange fnExactCountAutomorphismsWrong)

/-- 'laws.FnExactAutomorphismsOf': WHATEVER THE INPUT: true; the input reads as it did. -/
def fnExactAutomorphismsOfSpec : ChangeSpec := { name := "fnExactAutomorphismsOf", fn := fun _ => fun
  | [d] => { results := [.lit (.bool true)], args := [d] }
  | _ => none }
def fnExactAutomorphismsOfRow : OpenClaim := { program := "ytoicdfdfajfopaa", sum := "6bfa3b6dcf2483de2dd7b544b3163b54c3ce8a8dbecfbee094b9f787517db480", func := "loop.example/g01355/laws.FnExactAutomorphismsOf", spec := "fnExactAutomorphismsOf", unfollowed := true, recurses := true, plainKeys := false, apart := false }
def FnExactAutomorphismsOfSaid : Prop := fnExactAutomorphismsOfRow.holds Try.pinned (OpenSpec.ofChange fnExactAutomorphismsOfSpec)

/-- ITS FALSE NEIGHBOUR: 'it returns false'. Refute it at one input. -/
def fnExactAutomorphismsOfWrong : ChangeSpec := { name := "fnExactAutomorphismsOf", fn := fun _ => fun
  | [d] => { results := [.lit (.bool false)], args := [d] }
  | _ => none }
def FnExactAutomorphismsOfWrongFalsely : Prop := fnExactAutomorphismsOfRow.holds Try.pinned (OpenSpec.ofChange fnExactAutomorphismsOfWrong)

/-- 'laws.FnExactPointOrbits': WHATEVER THE INPUT: true; the input reads as it did. -/
def fnExactPointOrbitsSpec : ChangeSpec := { name := "fnExactPointOrbits", fn := fun _ => fun
  | [d] => { results := [.lit (.bool true)], args := [d] }
  | _ => none }
def fnExactPointOrbitsRow : OpenClaim := { program := "ytoicdfdfajfopaa", sum := "6bfa3b6dcf2483de2dd7b544b3163b54c3ce8a8dbecfbee094b9f787517db480", func := "loop.example/g01355/laws.FnExactPointOrbits", spec := "fnExactPointOrbits", unfollowed := true, recurses := true, plainKeys := false, apart := false }
def FnExactPointOrbitsSaid : Prop := fnExactPointOrbitsRow.holds Try.pinned (OpenSpec.ofChange fnExactPointOrbitsSpec)

/-- ITS FALSE NEIGHBOUR: 'it returns false'. Refute it at one input. -/
def fnExactPointOrbitsWrong : ChangeSpec := { name := "fnExactPointOrbits", fn := fun _ => fun
  | [d] => { results := [.lit (.bool false)], args := [d] }
  | _ => none }
def FnExactPointOrbitsWrongFalsely : Prop := fnExactPointOrbitsRow.holds Try.pinned (OpenSpec.ofChange fnExactPointOrbitsWrong)

/-- 'laws.FnExactBlockOrbits': WHATEVER THE INPUT: true; the input reads as it did. -/
def fnExactBlockOrbitsSpec : ChangeSpec := { name := "fnExactBlockOrbits", fn := fun _ => fun
  | [d] => { results := [.lit (.bool true)], args := [d] }
  | _ => none }
def fnExactBlockOrbitsRow : OpenClaim := { program := "ytoicdfdfajfopaa", sum := "6bfa3b6dcf2483de2dd7b544b3163b54c3ce8a8dbecfbee094b9f787517db480", func := "loop.example/g01355/laws.FnExactBlockOrbits", spec := "fnExactBlockOrbits", unfollowed := true, recurses := true, plainKeys := false, apart := false }
def FnExactBlockOrbitsSaid : Prop := fnExactBlockOrbitsRow.holds Try.pinned (OpenSpec.ofChange fnExactBlockOrbitsSpec)

/-- ITS FALSE NEIGHBOUR: 'it returns false'. Refute it at one input. -/
def fnExactBlockOrbitsWrong : ChangeSpec := { name := "fnExactBlockOrbits", fn := fun _ => fun
  | [d] => { results := [.lit (.bool false)], args := [d] }
  | _ => none }
def FnExactBlockOrbitsWrongFalsely : Prop := fnExactBlockOrbitsRow.holds Try.pinned (OpenSpec.ofChange fnExactBlockOrbitsWrong)

/-- 'laws.FnExactStabiliserNumber': WHATEVER THE INPUT: true; the input reads as it did. -/
def fnExactStabiliserNumberSpec : ChangeSpec := { name := "fnExactStabiliserNumber", fn := fun _ => fun
  | [d1, d2] => { results := [.lit (.bool true)], args := [d1, d2] }
  | _ => none }
def fnExactStabiliserNumberRow : OpenClaim := { program := "ytoicdfdfajfopaa", sum := "6bfa3b6dcf2483de2dd7b544b3163b54c3ce8a8dbecfbee094b9f787517db480", func := "loop.example/g01355/laws.FnExactStabiliserNumber", spec := "fnExactStabiliserNumber", unfollowed := true, recurses := true, plainKeys := false, apart := false }
def FnExactStabiliserNumberSaid : Prop := fnExactStabiliserNumberRow.holds Try.pinned (OpenSpec.ofChange fnExactStabiliserNumberSpec)

/-- ITS FALSE NEIGHBOUR: 'it returns false'. Refute it at one input. -/
def fnExactStabiliserNumberWrong : ChangeSpec := { name := "fnExactStabiliserNumber", fn := fun _ => fun
  | [d1, d2] => { results := [.lit (.bool false)], args := [d1, d2] }
  | _ => none }
def FnExactStabiliserNumberWrongFalsely : Prop := fnExactStabiliserNumberRow.holds Try.pinned (OpenSpec.ofChange fnExactStabiliserNumberWrong)

/-- 'laws.FnExactKeptNumbers': WHATEVER THE INPUT: true; the input reads as it did. -/
def fnExactKeptNumbersSpec : ChangeSpec := { name := "fnExactKeptNumbers", fn := fun _ => fun
  | [d] => { results := [.lit (.bool true)], args := [d] }
  | _ => none }
def fnExactKeptNumbersRow : OpenClaim := { program := "ytoicdfdfajfopaa", sum := "6bfa3b6dcf2483de2dd7b544b3163b54c3ce8a8dbecfbee094b9f787517db480", func := "loop.example/g01355/laws.FnExactKeptNumbers", spec := "fnExactKeptNumbers", unfollowed := true, recurses := true, plainKeys := false, apart := false }
def FnExactKeptNumbersSaid : Prop := fnExactKeptNumbersRow.holds Try.pinned (OpenSpec.ofChange fnExactKeptNumbersSpec)

/-- ITS FALSE NEIGHBOUR: 'it returns false'. Refute it at one input. -/
def fnExactKeptNumbersWrong : ChangeSpec := { name := "fnExactKeptNumbers", fn := fun _ => fun
  | [d] => { results := [.lit (.bool false)], args := [d] }
  | _ => none }
def FnExactKeptNumbersWrongFalsely : Prop := fnExactKeptNumbersRow.holds Try.pinned (OpenSpec.ofChange fnExactKeptNumbersWrong)

/-- 'laws.FnExactGoesAround': WHATEVER THE INPUT: true; the input reads as it did. -/
def fnExactGoesAroundSpec : ChangeSpec := { name := "fnExactGoesAround", fn := fun _ => fun
  | [d] => { results := [.lit (.bool true)], args := [d] }
  | _ => none }
def fnExactGoesAroundRow : OpenClaim := { program := "ytoicdfdfajfopaa", sum := "6bfa3b6dcf2483de2dd7b544b3163b54c3ce8a8dbecfbee094b9f787517db480", func := "loop.example/g01355/laws.FnExactGoesAround", spec := "fnExactGoesAround", unfollowed := true, recurses := true, plainKeys := false, apart := false }
def FnExactGoesAroundSaid : Prop := fnExactGoesAroundRow.holds Try.pinned (OpenSpec.ofChange fnExactGoesAroundSpec)

/-- ITS FALSE NEIGHBOUR: 'it returns false'. Refute it at one input. -/
def fnExactGoesAroundWrong : ChangeSpec := { name := "fnExactGoesAround", fn := fun _ => fun
  | [d] => { results := [.lit (.bool false)], args := [d] }
  | _ => none }
def FnExactGoesAroundWrongFalsely : Prop := fnExactGoesAroundRow.holds Try.pinned (OpenSpec.ofChange fnExactGoesAroundWrong)

/-- 'laws.FnExactNewDesk': WHATEVER THE INPUT: true; the input reads as it did. -/
def fnExactNewDeskSpec : ChangeSpec := { name := "fnExactNewDesk", fn := fun _ => fun
  | [] => { results := [.lit (.bool true)], args := [] }
  | _ => none }
def fnExactNewDeskRow : OpenClaim := { program := "ytoicdfdfajfopaa", sum := "6bfa3b6dcf2483de2dd7b544b3163b54c3ce8a8dbecfbee094b9f787517db480", func := "loop.example/g01355/laws.FnExactNewDesk", spec := "fnExactNewDesk", unfollowed := true, recurses := true, plainKeys := false, apart := false }
def FnExactNewDeskSaid : Prop := fnExactNewDeskRow.holds Try.pinned (OpenSpec.ofChange fnExactNewDeskSpec)

/-- ITS FALSE NEIGHBOUR: 'it returns false'. Refute it at one input. -/
def fnExactNewDeskWrong : ChangeSpec := { name := "fnExactNewDesk", fn := fun _ => fun
  | [] => { results := [.lit (.bool false)], args := [] }
  | _ => none }
def FnExactNewDeskWrongFalsely : Prop := fnExactNewDeskRow.holds Try.pinned (OpenSpec.ofChange fnExactNewDeskWrong)

/-- 'laws.FnExactIsDesk': WHATEVER THE INPUT: true; the input reads as it did. -/
def fnExactIsDeskSpec : ChangeSpec := { name := "fnExactIsDesk", fn := fun _ => fun
  | [d] => { results := [.lit (.bool true)], args := [d] }
  | _ => none }
def fnExactIsDeskRow : OpenClaim := { program := "ytoicdfdfajfopaa", sum := "6bfa3b6dcf2483de2dd7b544b3163b54c3ce8a8dbecfbee094b9f787517db480", func := "loop.example/g01355/laws.FnExactIsDesk", spec := "fnExactIsDesk", plainKeys := false, apart := false }
def FnExactIsDeskSaid : Prop := fnExactIsDeskRow.holds Try.pinned (OpenSpec.ofChange fnExactIsDeskSpec)

/-- ITS FALSE NEIGHBOUR: 'it returns false'. Refute it at one input. -/
def fnExactIsDeskWrong : ChangeSpec := { name := "fnExactIsDesk", fn := fun _ => fun
  | [d] => { results := [.lit (.bool false)], args := [d] }
  | _ => none }
def FnExactIsDeskWrongFalsely : Prop := fnExactIsDeskRow.holds Try.pinned (OpenSpec.ofChange fnExactIsDeskWrong)

/- THE SECOND FORM. 'bulk': how many values and letters a reading holds, each counted each time it is reached (what is shared counts as often as it is met; a slice's spare places count too). A statement '..UptoSaid' is the law's where the arguments, and the package variables that the reading takes, are together of bulk at most 1048576: NARROWER than '..Said'. Prove '..Said' where nothing that the law and all that it calls make is longer than what came in: it says more and counts as full. Else prove '..UptoSaid'. A law counts once. -/
mutual
def uptoBulk {H : Type} : DataW H → Nat
  | .lit (.string bytes) => bytes.length + 1
  | .lit _ => 1
  | .nil => 1
  | .ptr d => uptoBulk d + 1
  | .slice elems spare => uptoBulkAll elems + uptoBulkAll spare + 1
  | .agg parts => uptoBulkAll parts + 1
  | .iface _ d => uptoBulk d + 1
  | .map entries => uptoBulkEntries entries + 1
  | .held _ => 1
def uptoBulkAll {H : Type} : List (DataW H) → Nat
  | [] => 0
  | d :: r => uptoBulk d + uptoBulkAll r
def uptoBulkEntries {H : Type} : List (Lit × DataW H) → Nat
  | [] => 0
  | x :: r => uptoBulkEntry x + uptoBulkEntries r
def uptoBulkEntry {H : Type} : Lit × DataW H → Nat
  | (.string bytes, d) => bytes.length + uptoBulk d + 1
  | (_, d) => uptoBulk d + 1
 end
def uptoSmall : (H : Type) → List (DataW H) → Bool := fun _ ds => decide (uptoBulkAll ds ≤ 1048576)
def OpenSpec.upto (s : _root_.Go.ChangeSpec) : _root_.Go.OpenSpec := { _root_.Go.OpenSpec.ofChange s with cond := some uptoSmall }

/-- 'laws.FnExactLeadsTo', WHERE WHAT IT READS IS OF BULK AT MOST 1048576: true; the input reads as it did. -/
def fnExactLeadsToUptoRow : OpenClaim := { program := "ytoicdfdfajfopaa", sum := "6bfa3b6dcf2483de2dd7b544b3163b54c3ce8a8dbecfbee094b9f787517db480", func := "loop.example/g01355/laws.FnExactLeadsTo", spec := "fnExactLeadsTo", unfollowed := true, recurses := true, plainKeys := false, apart := false, narrowed := true }
def FnExactLeadsToUptoSaid : Prop := fnExactLeadsToUptoRow.holds Try.pinned (OpenSpec.upto fnExactLeadsToSpec)

/-- 'laws.FnExactFindRenumbering', WHERE WHAT IT READS IS OF BULK AT MOST 1048576: true; the input reads as it did. -/
def fnExactFindRenumberingUptoRow : OpenClaim := { program := "ytoicdfdfajfopaa", sum := "6bfa3b6dcf2483de2dd7b544b3163b54c3ce8a8dbecfbee094b9f787517db480", func := "loop.example/g01355/laws.FnExactFindRenumbering", spec := "fnExactFindRenumbering", unfollowed := true, recurses := true, plainKeys := false, apart := false, narrowed := true }
def FnExactFindRenumberingUptoSaid : Prop := fnExactFindRenumberingUptoRow.holds Try.pinned (OpenSpec.upto fnExactFindRenumberingSpec)

/-- 'laws.FnExactAreIsomorphic', WHERE WHAT IT READS IS OF BULK AT MOST 1048576: true; the input reads as it did. -/
def fnExactAreIsomorphicUptoRow : OpenClaim := { program := "ytoicdfdfajfopaa", sum := "6bfa3b6dcf2483de2dd7b544b3163b54c3ce8a8dbecfbee094b9f787517db480", func := "loop.example/g01355/laws.FnExactAreIsomorphic", spec := "fnExactAreIsomorphic", unfollowed := true, recurses := true, plainKeys := false, apart := false, narrowed := true }
def FnExactAreIsomorphicUptoSaid : Prop := fnExactAreIsomorphicUptoRow.holds Try.pinned (OpenSpec.upto fnExactAreIsomorphicSpec)

/-- 'laws.FnExactCountAutomorphisms', WHERE WHAT IT READS IS OF BULK AT MOST 1048576: true; the input reads as it did. -/
def fnExactCountAutomorphismsUptoRow : OpenClaim := { program := "ytoicdfdfajfopaa", sum := "6bfa3b6dcf2483de2dd7b544b3163b54c3ce8a8dbecfbee094b9f787517db480", func := "loop.example/g01355/laws.FnExactCountAutomorphisms", spec := "fnExactCountAutomorphisms", unfollowed := true, recurses := true, plainKeys := false, apart := false, narrowed := true }
def FnExactCountAutomorphismsUptoSaid : Prop := fnExactCountAutomorphismsUptoRow.holds Try.pinned (OpenSpec.upto fnExactCountAutomorphismsSpec)

/-- 'laws.FnExactAutomorphismsOf', WHERE WHAT IT READS IS OF BULK AT MOST 1048576: true; the input reads as it did. -/
def fnExactAutomorphismsOfUptoRow : OpenClaim := { program := "ytoicdfdfajfopaa", sum := "6bfa3b6dcf2483de2dd7b544b3163b54c3ce8a8dbecfbee094b9f787517db480", func := "loop.example/g01355/laws.FnExactAutomorphismsOf", spec := "fnExactAutomorphismsOf", unfollowed := true, recurses := true, plainKeys := false, apart := false, narrowed := true }
def FnExactAutomorphismsOfUptoSaid : Prop := fnExactAutomorphismsOfUptoRow.holds Try.pinned (OpenSpec.upto fnExactAutomorphismsOfSpec)

/-- 'laws.FnExactPointOrbits', WHERE WHAT IT READS IS OF BULK AT MOST 1048576: true; the input reads as it did. -/
def fnExactPointOrbitsUptoRow : OpenClaim := { program := "ytoicdfdfajfopaa", sum := "6bfa3b6dcf2483de2dd7b544b3163b54c3ce8a8dbecfbee094b9f787517db480", func := "loop.example/g01355/laws.FnExactPointOrbits", spec := "fnExactPointOrbits", unfollowed := true, recurses := true, plainKeys := false, apart := false, narrowed := true }
def FnExactPointOrbitsUptoSaid : Prop := fnExactPointOrbitsUptoRow.holds Try.pinned (OpenSpec.upto fnExactPointOrbitsSpec)

/-- 'laws.FnExactBlockOrbits', WHERE WHAT IT READS IS OF BULK AT MOST 1048576: true; the input reads as it did. -/
def fnExactBlockOrbitsUptoRow : OpenClaim := { program := "ytoicdfdfajfopaa", sum := "6bfa3b6dcf2483de2dd7b544b3163b54c3ce8a8dbecfbee094b9f787517db480", func := "loop.example/g01355/laws.FnExactBlockOrbits", spec := "fnExactBlockOrbits", unfollowed := true, recurses := true, plainKeys := false, apart := false, narrowed := true }
def FnExactBlockOrbitsUptoSaid : Prop := fnExactBlockOrbitsUptoRow.holds Try.pinned (OpenSpec.upto fnExactBlockOrbitsSpec)

/-- 'laws.FnExactStabiliserNumber', WHERE WHAT IT READS IS OF BULK AT MOST 1048576: true; the input reads as it did. -/
def fnExactStabiliserNumberUptoRow : OpenClaim := { program := "ytoicdfdfajfopaa", sum := "6bfa3b6dcf2483de2dd7b544b3163b54c3ce8a8dbecfbee094b9f787517db480", func := "loop.example/g01355/laws.FnExactStabiliserNumber", spec := "fnExactStabiliserNumber", unfollowed := true, recurses := true, plainKeys := false, apart := false, narrowed := true }
def FnExactStabiliserNumberUptoSaid : Prop := fnExactStabiliserNumberUptoRow.holds Try.pinned (OpenSpec.upto fnExactStabiliserNumberSpec)

/-- 'laws.FnExactKeptNumbers', WHERE WHAT IT READS IS OF BULK AT MOST 1048576: true; the input reads as it did. -/
def fnExactKeptNumbersUptoRow : OpenClaim := { program := "ytoicdfdfajfopaa", sum := "6bfa3b6dcf2483de2dd7b544b3163b54c3ce8a8dbecfbee094b9f787517db480", func := "loop.example/g01355/laws.FnExactKeptNumbers", spec := "fnExactKeptNumbers", unfollowed := true, recurses := true, plainKeys := false, apart := false, narrowed := true }
def FnExactKeptNumbersUptoSaid : Prop := fnExactKeptNumbersUptoRow.holds Try.pinned (OpenSpec.upto fnExactKeptNumbersSpec)

/-- 'laws.FnExactGoesAround', WHERE WHAT IT READS IS OF BULK AT MOST 1048576: true; the input reads as it did. -/
def fnExactGoesAroundUptoRow : OpenClaim := { program := "ytoicdfdfajfopaa", sum := "6bfa3b6dcf2483de2dd7b544b3163b54c3ce8a8dbecfbee094b9f787517db480", func := "loop.example/g01355/laws.FnExactGoesAround", spec := "fnExactGoesAround", unfollowed := true, recurses := true, plainKeys := false, apart := false, narrowed := true }
def FnExactGoesAroundUptoSaid : Prop := fnExactGoesAroundUptoRow.holds Try.pinned (OpenSpec.upto fnExactGoesAroundSpec)

/-- 'laws.FnExactNewDesk', WHERE WHAT IT READS IS OF BULK AT MOST 1048576: true; the input reads as it did. -/
def fnExactNewDeskUptoRow : OpenClaim := { program := "ytoicdfdfajfopaa", sum := "6bfa3b6dcf2483de2dd7b544b3163b54c3ce8a8dbecfbee094b9f787517db480", func := "loop.example/g01355/laws.FnExactNewDesk", spec := "fnExactNewDesk", unfollowed := true, recurses := true, plainKeys := false, apart := false, narrowed := true }
def FnExactNewDeskUptoSaid : Prop := fnExactNewDeskUptoRow.holds Try.pinned (OpenSpec.upto fnExactNewDeskSpec)

/-- 'laws.FnExactIsDesk', WHERE WHAT IT READS IS OF BULK AT MOST 1048576: true; the input reads as it did. -/
def fnExactIsDeskUptoRow : OpenClaim := { program := "ytoicdfdfajfopaa", sum := "6bfa3b6dcf2483de2dd7b544b3163b54c3ce8a8dbecfbee094b9f787517db480", func := "loop.example/g01355/laws.FnExactIsDesk", spec := "fnExactIsDesk", plainKeys := false, apart := false, narrowed := true }
def FnExactIsDeskUptoSaid : Prop := fnExactIsDeskUptoRow.holds Try.pinned (OpenSpec.upto fnExactIsDeskSpec)

end Rows
end Go.Proofs.Ytoicdfdfajfopaa

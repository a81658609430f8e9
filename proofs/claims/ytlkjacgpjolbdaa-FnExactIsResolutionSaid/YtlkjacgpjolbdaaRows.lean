/-
  No cell of these rows narrows 'for every input' (looked for: loops, veiled, ifaces, maps, wideKeys, modest, calm, conditions, laid).
  DERIVED. THE GIVEN ROWS OF THIS SEAT. 16 by the template 'for every input the law returns true; each argument reads behind the call as it read before'; 0 by the template 'total and deterministic' (their statements: YtlkjacgpjolbdaaTotals.lean).
  GIVEN WITH THE SEED: the statements are not yours to turn. If you find one false, say at which input.
  Laid BY PROGRAM, IN A SANDBOX (cutbox-rows.mjs): the forced cells as the released guide's own fill.sh prints them over the translation 0774ed20620713c8… (all of the seat's roots in one cut). By AI agents, Wed Nov 11 2026. No macro, syntax, notation, axiom, sorry.
-/
import Derived.Test.YtlkjacgpjolbdaaChecked
import GoSem.Claim
import GoSem.ClaimJoined
import GoSem.ClaimMapViews
import Derived.JoinedTies
import Derived.KernelRfl
namespace Go.Proofs.Ytlkjacgpjolbdaa
/- THE CELL 'sum', in the pinned program and in every row, IS THE sha256 OF THE DUMP (.gsa) THAT YtlkjacgpjolbdaaProg.lean LOADS. Nothing in Lean hashes anything: it is a label: what it is worth is what the hold of that sum in a sandbox is worth. -/
noncomputable def Try.pinned : Pinned := { name := "ytlkjacgpjolbdaa", sum := "0774ed20620713c82bea3edd6935b94b4eb96c4a09e8660f38d3d1db56e76696", checked := Try.checked }
namespace Rows
def none {H : Type} : Left H := { results := [], args := [] }

/-- 'laws.FnExactTakeBlock': WHATEVER THE INPUT: true; the input reads as it did. -/
def fnExactTakeBlockSpec : ChangeSpec := { name := "fnExactTakeBlock", fn := fun _ => fun
  | [d1, d2] => { results := [.lit (.bool true)], args := [d1, d2] }
  | _ => none }
def fnExactTakeBlockRow : OpenClaim := { program := "ytlkjacgpjolbdaa", sum := "0774ed20620713c82bea3edd6935b94b4eb96c4a09e8660f38d3d1db56e76696", func := "loop.example/g01355/laws.FnExactTakeBlock", spec := "fnExactTakeBlock", plainKeys := false, apart := false }
def FnExactTakeBlockSaid : Prop := fnExactTakeBlockRow.holds Try.pinned (OpenSpec.ofChange fnExactTakeBlockSpec)

/-- ITS FALSE NEIGHBOUR: 'it returns false'. Refute it at one input. -/
def fnExactTakeBlockWrong : ChangeSpec := { name := "fnExactTakeBlock", fn := fun _ => fun
  | [d1, d2] => { results := [.lit (.bool false)], args := [d1, d2] }
  | _ => none }
def FnExactTakeBlockWrongFalsely : Prop := fnExactTakeBlockRow.holds Try.pinned (OpenSpec.ofChange fnExactTakeBlockWrong)

/-- 'laws.FnExactBlocksOn': WHATEVER THE INPUT: true; the input reads as it did. -/
def fnExactBlocksOnSpec : ChangeSpec := { name := "fnExactBlocksOn", fn := fun _ => fun
  | [d1, d2] => { results := [.lit (.bool true)], args := [d1, d2] }
  | _ => none }
def fnExactBlocksOnRow : OpenClaim := { program := "ytlkjacgpjolbdaa", sum := "0774ed20620713c82bea3edd6935b94b4eb96c4a09e8660f38d3d1db56e76696", func := "loop.example/g01355/laws.FnExactBlocksOn", spec := "fnExactBlocksOn", plainKeys := false, apart := false }
def FnExactBlocksOnSaid : Prop := fnExactBlocksOnRow.holds Try.pinned (OpenSpec.ofChange fnExactBlocksOnSpec)

/-- ITS FALSE NEIGHBOUR: 'it returns false'. Refute it at one input. -/
def fnExactBlocksOnWrong : ChangeSpec := { name := "fnExactBlocksOn", fn := fun _ => fun
  | [d1, d2] => { results := [.lit (.bool false)], args := [d1, d2] }
  | _ => none }
def FnExactBlocksOnWrongFalsely : Prop := fnExactBlocksOnRow.holds Try.pinned (OpenSpec.ofChange fnExactBlocksOnWrong)

/-- 'laws.FnExactAreDisjoint': WHATEVER THE INPUT: true; the input reads as it did. -/
def fnExactAreDisjointSpec : ChangeSpec := { name := "fnExactAreDisjoint", fn := fun _ => fun
  | [d1, d2] => { results := [.lit (.bool true)], args := [d1, d2] }
  | _ => none }
def fnExactAreDisjointRow : OpenClaim := { program := "ytlkjacgpjolbdaa", sum := "0774ed20620713c82bea3edd6935b94b4eb96c4a09e8660f38d3d1db56e76696", func := "loop.example/g01355/laws.FnExactAreDisjoint", spec := "fnExactAreDisjoint", unfollowed := true, recurses := true, plainKeys := false, apart := false }
def FnExactAreDisjointSaid : Prop := fnExactAreDisjointRow.holds Try.pinned (OpenSpec.ofChange fnExactAreDisjointSpec)

/-- ITS FALSE NEIGHBOUR: 'it returns false'. Refute it at one input. -/
def fnExactAreDisjointWrong : ChangeSpec := { name := "fnExactAreDisjoint", fn := fun _ => fun
  | [d1, d2] => { results := [.lit (.bool false)], args := [d1, d2] }
  | _ => none }
def FnExactAreDisjointWrongFalsely : Prop := fnExactAreDisjointRow.holds Try.pinned (OpenSpec.ofChange fnExactAreDisjointWrong)

/-- 'laws.FnExactIsClass': WHATEVER THE INPUT: true; the input reads as it did. -/
def fnExactIsClassSpec : ChangeSpec := { name := "fnExactIsClass", fn := fun _ => fun
  | [d1, d2] => { results := [.lit (.bool true)], args := [d1, d2] }
  | _ => none }
def fnExactIsClassRow : OpenClaim := { program := "ytlkjacgpjolbdaa", sum := "0774ed20620713c82bea3edd6935b94b4eb96c4a09e8660f38d3d1db56e76696", func := "loop.example/g01355/laws.FnExactIsClass", spec := "fnExactIsClass", unfollowed := true, recurses := true, plainKeys := false, apart := false }
def FnExactIsClassSaid : Prop := fnExactIsClassRow.holds Try.pinned (OpenSpec.ofChange fnExactIsClassSpec)

/-- ITS FALSE NEIGHBOUR: 'it returns false'. Refute it at one input. -/
def fnExactIsClassWrong : ChangeSpec := { name := "fnExactIsClass", fn := fun _ => fun
  | [d1, d2] => { results := [.lit (.bool false)], args := [d1, d2] }
  | _ => none }
def FnExactIsClassWrongFalsely : Prop := fnExactIsClassRow.holds Try.pinned (OpenSpec.ofChange fnExactIsClassWrong)

/-- 'laws.FnExactMeetingBlocks': WHATEVER THE INPUT: true; the input reads as it did. -/
def fnExactMeetingBlocksSpec : ChangeSpec := { name := "fnExactMeetingBlocks", fn := fun _ => fun
  | [d1, d2] => { results := [.lit (.bool true)], args := [d1, d2] }
  | _ => none }
def fnExactMeetingBlocksRow : OpenClaim := { program := "ytlkjacgpjolbdaa", sum := "0774ed20620713c82bea3edd6935b94b4eb96c4a09e8660f38d3d1db56e76696", func := "loop.example/g01355/laws.FnExactMeetingBlocks", spec := "fnExactMeetingBlocks", unfollowed := true, recurses := true, plainKeys := false, apart := false }
def FnExactMeetingBlocksSaid : Prop := fnExactMeetingBlocksRow.holds Try.pinned (OpenSpec.ofChange fnExactMeetingBlocksSpec)

/-- ITS FALSE NEIGHBOUR: 'it returns false'. Refute it at one input. -/
def fnExactMeetingBlocksWrong : ChangeSpec := { name := "fnExactMeetingBlocks", fn := fun _ => fun
  | [d1, d2] => { results := [.lit (.bool false)], args := [d1, d2] }
  | _ => none }
def FnExactMeetingBlocksWrongFalsely : Prop := fnExactMeetingBlocksRow.holds Try.pinned (OpenSpec.ofChange fnExactMeetingBlocksWrong)

/-- 'laws.FnExactIsResolution': WHATEVER THE INPUT: true; the input reads as it did. -/
def fnExactIsResolutionSpec : ChangeSpec := { name := "fnExactIsResolution", fn := fun _ => fun
  | [d1, d2] => { results := [.lit (.bool true)], args := [d1, d2] }
  | _ => none }
def fnExactIsResolutionRow : OpenClaim := { program := "ytlkjacgpjolbdaa", sum := "0774ed20620713c82bea3edd6935b94b4eb96c4a09e8660f38d3d1db56e76696", func := "loop.example/g01355/laws.FnExactIsResolution", spec := "fnExactIsResolution", unfollowed := true, recurses := true, plainKeys := false, apart := false }
def FnExactIsResolutionSaid : Prop := fnExactIsResolutionRow.holds Try.pinned (OpenSpec.ofChange fnExactIsResolutionSpec)

/-- ITS FALSE NEIGHBOUR: 'it returns false'. Refute it at one input. -/
def fnExactIsResolutionWrong : ChangeSpec := { name := "fnExactIsResolution", fn := fun _ => fun
  | [d1, d2] => { results := [.lit (.bool false)], args := [d1, d2] }
  | _ => none }
def FnExactIsResolutionWrongFalsely : Prop := fnExactIsResolutionRow.holds Try.pinned (OpenSpec.ofChange fnExactIsResolutionWrong)

/-- 'laws.FnExactLeadsTo': WHATEVER THE INPUT: true; the input reads as it did. -/
def fnExactLeadsToSpec : ChangeSpec := { name := "fnExactLeadsTo", fn := fun _ => fun
  | [d1, d2, d3] => { results := [.lit (.bool true)], args := [d1, d2, d3] }
  | _ => none }
def fnExactLeadsToRow : OpenClaim := { program := "ytlkjacgpjolbdaa", sum := "0774ed20620713c82bea3edd6935b94b4eb96c4a09e8660f38d3d1db56e76696", func := "loop.example/g01355/laws.FnExactLeadsTo", spec := "fnExactLeadsTo", unfollowed := true, recurses := true, plainKeys := false, apart := false }
def FnExactLeadsToSaid : Prop := fnExactLeadsToRow.holds Try.pinned (OpenSpec.ofChange fnExactLeadsToSpec)

/-- ITS FALSE NEIGHBOUR: 'it returns false'. Refute it at one input. -/
def fnExactLeadsToWrong : ChangeSpec := { name := "fnExactLeadsTo", fn := fun _ => fun
  | [d1, d2, d3] => { results := [.lit (.bool false)], args := [d1, d2, d3] }
  | _ => none }
def FnExactLeadsToWrongFalsely : Prop := fnExactLeadsToRow.holds Try.pinned (OpenSpec.ofChange fnExactLeadsToWrong)

/-- 'laws.FnExactFindRenumbering': WHATEVER THE INPUT: true; the input reads as it did. -/
def fnExactFindRenumberingSpec : ChangeSpec := { name := "fnExactFindRenumbering", fn := fun _ => fun
  | [d1, d2] => { results := [.lit (.bool true)], args := [d1, d2] }
  | _ => none }
def fnExactFindRenumberingRow : OpenClaim := { program := "ytlkjacgpjolbdaa", sum := "0774ed20620713c82bea3edd6935b94b4eb96c4a09e8660f38d3d1db56e76696", func := "loop.example/g01355/laws.FnExactFindRenumbering", spec := "fnExactFindRenumbering", unfollowed := true, recurses := true, plainKeys := false, apart := false }
def FnExactFindRenumberingSaid : Prop := fnExactFindRenumberingRow.holds Try.pinned (OpenSpec.ofChange fnExactFindRenumberingSpec)

/-- ITS FALSE NEIGHBOUR: 'it returns false'. Refute it at one input. -/
def fnExactFindRenumberingWrong : ChangeSpec := { name := "fnExactFindRenumbering", fn := fun _ => fun
  | [d1, d2] => { results := [.lit (.bool false)], args := [d1, d2] }
  | _ => none }
def FnExactFindRenumberingWrongFalsely : Prop := fnExactFindRenumberingRow.holds Try.pinned (OpenSpec.ofChange fnExactFindRenumberingWrong)

/-- 'laws.FnExactAreIsomorphic': WHATEVER THE INPUT: true; the input reads as it did. -/
def fnExactAreIsomorphicSpec : ChangeSpec := { name := "fnExactAreIsomorphic", fn := fun _ => fun
  | [d1, d2] => { results := [.lit (.bool true)], args := [d1, d2] }
  | _ => none }
def fnExactAreIsomorphicRow : OpenClaim := { program := "ytlkjacgpjolbdaa", sum := "0774ed20620713c82bea3edd6935b94b4eb96c4a09e8660f38d3d1db56e76696", func := "loop.example/g01355/laws.FnExactAreIsomorphic", spec := "fnExactAreIsomorphic", unfollowed := true, recurses := true, plainKeys := false, apart := false }
def FnExactAreIsomorphicSaid : Prop := fnExactAreIsomorphicRow.holds Try.pinned (OpenSpec.ofChange fnExactAreIsomorphicSpec)

/-- ITS FALSE NEIGHBOUR: 'it returns false'. Refute it at one input. -/
def fnExactAreIsomorphicWrong : ChangeSpec := { name := "fnExactAreIsomorphic", fn := fun _ => fun
  | [d1, d2] => { results := [.lit (.bool false)], args := [d1, d2] }
  | _ => none }
def FnExactAreIsomorphicWrongFalsely : Prop := fnExactAreIsomorphicRow.holds Try.pinned (OpenSpec.ofChange fnExactAreIsomorphicWrong)

/-- 'laws.FnExactCountAutomorphisms': WHATEVER THE INPUT: true; the input reads as it did. -/
def fnExactCountAutomorphismsSpec : ChangeSpec := { name := "fnExactCountAutomorphisms", fn := fun _ => fun
  | [d] => { results := [.lit (.bool true)], args := [d] }
  | _ => none }
def fnExactCountAutomorphismsRow : OpenClaim := { program := "ytlkjacgpjolbdaa", sum := "0774ed20620713c82bea3edd6935b94b4eb96c4a09e8660f38d3d1db56e76696", func := "loop.example/g01355/laws.FnExactCountAutomorphisms", spec := "fnExactCountAutomorphisms", unfollowed := true, recurses := true, plainKeys := false, apart := false }
def FnExactCountAutomorphismsSaid : Prop := fnExactCountAutomorphismsRow.holds Try.pinned (OpenSpec.ofChange fnExactCountAutomorphismsSpec)

/-- ITS FALSE NEIGHBOUR: 'it returns false'. Refute it at one input. -/
def fnExactCountAutomorphismsWrong : ChangeSpec := { name := "fnExactCountAutomorphisms", fn := fun _ => fun
  | [d] => { results := [.lit (.bool false)], args := [d] }
  | _ => none }
def FnExactCountAutomorphismsWrongFalsely : Prop := fnExactCountAutomorphismsRow.holds Try.pinned (OpenSpec.ofChange fnExactCountAutomorphismsWrong)

/-- 'laws.FnExactAutomorphismsOf': WHATEVER THE INPUT: true; the input reads as it did. -/
def fnExactAutomorphismsOfSpec : ChangeSpec := { name := "fnExactAutomorphismsOf", fn := fun _ => fun
  | [d] => { results := [.lit (.bool true)], args := [d] }
  | _ => none }
def fnExactAutomorphismsOfRow : OpenClaim := { program := "ytlkjacgpjolbdaa", sum := "0774ed20620713c82bea3edd6935b94b4eb96c4a09e8660f38d3d1db56e76696", func := "loop.example/g01355/laws.FnExactAutomorphismsOf", spec := "fnExactAutomorphismsOf", unfollowed := true, recurses := true, plainKeys := false, apart := false }
def FnExactAutomorphismsOfSaid : Prop := fnExactAutomorphismsOfRow.holds Try.pinned (OpenSpec.ofChange fnExactAutomorphismsOfSpec)

/-- ITS FALSE NEIGHBOUR: 'it returns false'. Refute it at one input. -/
def fnExactAutomorphismsOfWrong : ChangeSpec := { name := "fnExactAutomorphismsOf", fn := fun _ => fun
  | [d] => { results := [.lit (.bool false)], args := [d] }
  | _ => none }
def FnExactAutomorphismsOfWrongFalsely : Prop := fnExactAutomorphismsOfRow.holds Try.pinned (OpenSpec.ofChange fnExactAutomorphismsOfWrong)

/-- 'laws.FnExactPointOrbits': WHATEVER THE INPUT: true; the input reads as it did. -/
def fnExactPointOrbitsSpec : ChangeSpec := { name := "fnExactPointOrbits", fn := fun _ => fun
  | [d] => { results := [.lit (.bool true)], args := [d] }
  | _ => none }
def fnExactPointOrbitsRow : OpenClaim := { program := "ytlkjacgpjolbdaa", sum := "0774ed20620713c82bea3edd6935b94b4eb96c4a09e8660f38d3d1db56e76696", func := "loop.example/g01355/laws.FnExactPointOrbits", spec := "fnExactPointOrbits", unfollowed := true, recurses := true, plainKeys := false, apart := false }
def FnExactPointOrbitsSaid : Prop := fnExactPointOrbitsRow.holds Try.pinned (OpenSpec.ofChange fnExactPointOrbitsSpec)

/-- ITS FALSE NEIGHBOUR: 'it returns false'. Refute it at one input. -/
def fnExactPointOrbitsWrong : ChangeSpec := { name := "fnExactPointOrbits", fn := fun _ => fun
  | [d] => { results := [.lit (.bool false)], args := [d] }
  | _ => none }
def FnExactPointOrbitsWrongFalsely : Prop := fnExactPointOrbitsRow.holds Try.pinned (OpenSpec.ofChange fnExactPointOrbitsWrong)

/-- 'laws.FnExactBlockOrbits': WHATEVER THE INPUT: true; the input reads as it did. -/
def fnExactBlockOrbitsSpec : ChangeSpec := { name := "fnExactBlockOrbits", fn := fun _ => fun
  | [d] => { results := [.lit (.bool true)], args := [d] }
  | _ => none }
def fnExactBlockOrbitsRow : OpenClaim := { program := "ytlkjacgpjolbdaa", sum := "0774ed20620713c82bea3edd6935b94b4eb96c4a09e8660f38d3d1db56e76696", func := "loop.example/g01355/laws.FnExactBlockOrbits", spec := "fnExactBlockOrbits", unfollowed := true, recurses := true, plainKeys := false, apart := false }
def FnExactBlockOrbitsSaid : Prop := fnExactBlockOrbitsRow.holds Try.pinned (OpenSpec.ofChange fnExactBlockOrbitsSpec)

/-- ITS FALSE NEIGHBOUR: 'it returns false'. Refute it at one input. -/
def fnExactBlockOrbitsWrong : ChangeSpec := { name := "fnExactBlockOrbits", fn := fun _ => fun
  | [d] => { results := [.lit (.bool false)], args := [d] }
  | _ => none }
def FnExactBlockOrbitsWrongFalsely : Prop := fnExactBlockOrbitsRow.holds Try.pinned (OpenSpec.ofChange fnExactBlockOrbitsWrong)

/-- 'laws.FnExactStabiliserNumber': WHATEVER THE INPUT: true; the input reads as it did. -/
def fnExactStabiliserNumberSpec : ChangeSpec := { name := "fnExactStabiliserNumber", fn := fun _ => fun
  | [d1, d2] => { results := [.lit (.bool true)], args := [d1, d2] }
  | _ => none }
def fnExactStabiliserNumberRow : OpenClaim := { program := "ytlkjacgpjolbdaa", sum := "0774ed20620713c82bea3edd6935b94b4eb96c4a09e8660f38d3d1db56e76696", func := "loop.example/g01355/laws.FnExactStabiliserNumber", spec := "fnExactStabiliserNumber", unfollowed := true, recurses := true, plainKeys := false, apart := false }
def FnExactStabiliserNumberSaid : Prop := fnExactStabiliserNumberRow.holds Try.pinned (OpenSpec.ofChange fnExactStabiliserNumberSpec)

/-- ITS FALSE NEIGHBOUR: 'it returns false'. Refute it at one input. -/
def fnExactStabiliserNumberWrong : ChangeSpec := { name := "fnExactStabiliserNumber", fn := fun _ => fun
  | [d1, d2] => { results := [.lit (.bool false)], args := [d1, d2] }
  | _ => none }
def FnExactStabiliserNumberWrongFalsely : Prop := fnExactStabiliserNumberRow.holds Try.pinned (OpenSpec.ofChange fnExactStabiliserNumberWrong)

/-- 'laws.FnExactKeptNumbers': WHATEVER THE INPUT: true; the input reads as it did. -/
def fnExactKeptNumbersSpec : ChangeSpec := { name := "fnExactKeptNumbers", fn := fun _ => fun
  | [d] => { results := [.lit (.bool true)], args := [d] }
  | _ => none }
def fnExactKeptNumbersRow : OpenClaim := { program := "ytlkjacgpjolbdaa", sum := "0774ed20620713c82bea3edd6935b94b4eb96c4a09e8660f38d3d1db56e76696", func := "loop.example/g01355/laws.FnExactKeptNumbers", spec := "fnExactKeptNumbers", unfollowed := true, recurses := true, plainKeys := false, apart := false }
def FnExactKeptNumbersSaid : Prop := fnExactKeptNumbersRow.holds Try.pinned (OpenSpec.ofChange fnExactKeptNumbersSpec)

/-- ITS FALSE NEIGHBOUR: 'it returns false'. Refute it at one input. -/
def fnExactKeptNumbersWrong : ChangeSpec := { name := "fnExactKeptNumbers", fn := fun _ => fun
  | [d] => { results := [.lit (.bool false)], args := [d] }
  | _ => none }
def FnExactKeptNumbersWrongFalsely : Prop := fnExactKeptNumbersRow.holds Try.pinned (OpenSpec.ofChange fnExactKeptNumbersWrong)

/-- 'laws.FnExactGoesAround': WHATEVER THE INPUT: true; the input reads as it did. -/
def fnExactGoesAroundSpec : ChangeSpec := { name := "fnExactGoesAround", fn := fun _ => fun
  | [d] => { results := [.lit (.bool true)], args := [d] }
  | _ => none }
def fnExactGoesAroundRow : OpenClaim := { program := "ytlkjacgpjolbdaa", sum := "0774ed20620713c82bea3edd6935b94b4eb96c4a09e8660f38d3d1db56e76696", func := "loop.example/g01355/laws.FnExactGoesAround", spec := "fnExactGoesAround", unfollowed := true, recurses := true, plainKeys := false, apart := false }
def FnExactGoesAroundSaid : Prop := fnExactGoesAroundRow.holds Try.pinned (OpenSpec.ofChange fnExactGoesAroundSpec)

/-- ITS FALSE NEIGHBOUR: 'it returns false'. Refute it at one input. -/
def fnExactGoesAroundWrong : ChangeSpec := { name := "fnExactGoesAround", fn := fun _ => fun
  | [d] => { results := [.lit (.bool false)], args := [d] }
  | _ => none }
def FnExactGoesAroundWrongFalsely : Prop := fnExactGoesAroundRow.holds Try.pinned (OpenSpec.ofChange fnExactGoesAroundWrong)

/- THE SECOND FORM. 'bulk': how many values and letters a reading holds, each counted each time it is reached (what is shared counts as often as it is met; a slice's spare places count too). A statement '..UptoSaid' is the law's where the arguments, and the package variables that the reading takes, are together of bulk at most 1048576: NARROWER than '..Said'. Prove '..Said' where nothing that the law and all that it calls make is longer than what came in: it says more and counts as full. Else prove '..UptoSaid'. A law counts once. -/
mutual
def uptoBulk {H : Type} : DataW H → Nat
  | .lit (.string bytes) => bytes.length + 1
  | .lit _ => 1
  | .nil => 1
  | .ptr d => uptoBulk d + 1
  | .slice elems spare => uptoBulkAll elems + uptoBulkAll spare + 1
  | .agg parts => uptoBulkAll parts + 1
  | .iface _ d => uptoBulk d + 1
  | .map entries => uptoBulkEntries entries + 1
  | .held _ => 1
def uptoBulkAll {H : Type} : List (DataW H) → Nat
  | [] => 0
  | d :: r => uptoBulk d + uptoBulkAll r
def uptoBulkEntries {H : Type} : List (Lit × DataW H) → Nat
  | [] => 0
  | x :: r => uptoBulkEntry x + uptoBulkEntries r
def uptoBulkEntry {H : Type} : Lit × DataW H → Nat
  | (.string bytes, d) => bytes.length + uptoBulk d + 1
  | (_, d) => uptoBulk d + 1
 end
def uptoSmall : (H : Type) → List (DataW H) → Bool := fun _ ds => decide (uptoBulkAll ds ≤ 1048576)
def OpenSpec.upto (s : _root_.Go.ChangeSpec) : _root_.Go.OpenSpec := { _root_.Go.OpenSpec.ofChange s with cond := some uptoSmall }

/-- 'laws.FnExactTakeBlock', WHERE WHAT IT READS IS OF BULK AT MOST 1048576: true; the input reads as it did. -/
def fnExactTakeBlockUptoRow : OpenClaim := { program := "ytlkjacgpjolbdaa", sum := "0774ed20620713c82bea3edd6935b94b4eb96c4a09e8660f38d3d1db56e76696", func := "loop.example/g01355/laws.FnExactTakeBlock", spec := "fnExactTakeBlock", plainKeys := false, apart := false, narrowed := true }
def FnExactTakeBlockUptoSaid : Prop := fnExactTakeBlockUptoRow.holds Try.pinned (OpenSpec.upto fnExactTakeBlockSpec)

/-- 'laws.FnExactBlocksOn', WHERE WHAT IT READS IS OF BULK AT MOST 1048576: true; the input reads as it did. -/
def fnExactBlocksOnUptoRow : OpenClaim := { program := "ytlkjacgpjolbdaa", sum := "0774ed20620713c82bea3edd6935b94b4eb96c4a09e8660f38d3d1db56e76696", func := "loop.example/g01355/laws.FnExactBlocksOn", spec := "fnExactBlocksOn", plainKeys := false, apart := false, narrowed := true }
def FnExactBlocksOnUptoSaid : Prop := fnExactBlocksOnUptoRow.holds Try.pinned (OpenSpec.upto fnExactBlocksOnSpec)

/-- 'laws.FnExactAreDisjoint', WHERE WHAT IT READS IS OF BULK AT MOST 1048576: true; the input reads as it did. -/
def fnExactAreDisjointUptoRow : OpenClaim := { program := "ytlkjacgpjolbdaa", sum := "0774ed20620713c82bea3edd6935b94b4eb96c4a09e8660f38d3d1db56e76696", func := "loop.example/g01355/laws.FnExactAreDisjoint", spec := "fnExactAreDisjoint", unfollowed := true, recurses := true, plainKeys := false, apart := false, narrowed := true }
def FnExactAreDisjointUptoSaid : Prop := fnExactAreDisjointUptoRow.holds Try.pinned (OpenSpec.upto fnExactAreDisjointSpec)

/-- 'laws.FnExactIsClass', WHERE WHAT IT READS IS OF BULK AT MOST 1048576: true; the input reads as it did. -/
def fnExactIsClassUptoRow : OpenClaim := { program := "ytlkjacgpjolbdaa", sum := "0774ed20620713c82bea3edd6935b94b4eb96c4a09e8660f38d3d1db56e76696", func := "loop.example/g01355/laws.FnExactIsClass", spec := "fnExactIsClass", unfollowed := true, recurses := true, plainKeys := false, apart := false, narrowed := true }
def FnExactIsClassUptoSaid : Prop := fnExactIsClassUptoRow.holds Try.pinned (OpenSpec.upto fnExactIsClassSpec)

/-- 'laws.FnExactMeetingBlocks', WHERE WHAT IT READS IS OF BULK AT MOST 1048576: true; the input reads as it did. -/
def fnExactMeetingBlocksUptoRow : OpenClaim := { program := "ytlkjacgpjolbdaa", sum := "0774ed20620713c82bea3edd6935b94b4eb96c4a09e8660f38d3d1db56e76696", func := "loop.example/g01355/laws.FnExactMeetingBlocks", spec := "fnExactMeetingBlocks", unfollowed := true, recurses := true, plainKeys := false, apart := false, narrowed := true }
def FnExactMeetingBlocksUptoSaid : Prop := fnExactMeetingBlocksUptoRow.holds Try.pinned (OpenSpec.upto fnExactMeetingBlocksSpec)

/-- 'laws.FnExactIsResolution', WHERE WHAT IT READS IS OF BULK AT MOST 1048576: true; the input reads as it did. -/
def fnExactIsResolutionUptoRow : OpenClaim := { program := "ytlkjacgpjolbdaa", sum := "0774ed20620713c82bea3edd6935b94b4eb96c4a09e8660f38d3d1db56e76696", func := "loop.example/g01355/laws.FnExactIsResolution", spec := "fnExactIsResolution", unfollowed := true, recurses := true, plainKeys := false, apart := false, narrowed := true }
def FnExactIsResolutionUptoSaid : Prop := fnExactIsResolutionUptoRow.holds Try.pinned (OpenSpec.upto fnExactIsResolutionSpec)

/-- 'laws.FnExactLeadsTo', WHERE WHAT IT READS IS OF BULK AT MOST 1048576: true; the input reads as it did. -/
def fnExactLeadsToUptoRow : OpenClaim := { program := "ytlkjacgpjolbdaa", sum := "0774ed20620713c82bea3edd6935b94b4eb96c4a09e8660f38d3d1db56e76696", func := "loop.example/g01355/laws.FnExactLeadsTo", spec := "fnExactLeadsTo", unfollowed := true, recurses := true, plainKeys := false, apart := false, narrowed := true }
def FnExactLeadsToUptoSaid : Prop := fnExactLeadsToUptoRow.holds Try.pinned (OpenSpec.upto fnExactLeadsToSpec)

/-- 'laws.FnExactFindRenumbering', WHERE WHAT IT READS IS OF BULK AT MOST 1048576: true; the input reads as it did. -/
def fnExactFindRenumberingUptoRow : OpenClaim := { program := "ytlkjacgpjolbdaa", sum := "0774ed20620713c82bea3edd6935b94b4eb96c4a09e8660f38d3d1db56e76696", func := "loop.example/g01355/laws.FnExactFindRenumbering", spec := "fnExactFindRenumbering", unfollowed := true, recurses := true, plainKeys := false, apart := false, narrowed := true }
def FnExactFindRenumberingUptoSaid : Prop := fnExactFindRenumberingUptoRow.holds Try.pinned (OpenSpec.upto fnExactFindRenumberingSpec)

/-- 'laws.FnExactAreIsomorphic', WHERE WHAT IT READS IS OF BULK AT MOST 1048576: true; the input reads as it did. -/
def fnExactAreIsomorphicUptoRow : OpenClaim := { program := "ytlkjacgpjolbdaa", sum := "0774ed20620713c82bea3edd6935b94b4eb96c4a09e8660f38d3d1db56e76696", func := "loop.example/g01355/laws.FnExactAreIsomorphic", spec := "fnExactAreIsomorphic", unfollowed := true, recurses := true, plainKeys := false, apart := false, narrowed := true }
def FnExactAreIsomorphicUptoSaid : Prop := fnExactAreIsomorphicUptoRow.holds Try.pinned (OpenSpec.upto fnExactAreIsomorphicSpec)

/-- 'laws.FnExactCountAutomorphisms', WHERE WHAT IT READS IS OF BULK AT MOST 1048576: true; the input reads as it did. -/
def fnExactCountAutomorphismsUptoRow : OpenClaim := { program := "ytlkjacgpjolbdaa", sum := "0774ed20620713c82bea3edd6935b94b4eb96c4a09e8660f38d3d1db56e76696", func := "loop.example/g01355/laws.FnExactCountAutomorphisms", spec := "fnExactCountAutomorphisms", unfollowed := true, recurses := true, plainKeys := false, apart := false, narrowed := true }
def FnExactCountAutomorphismsUptoSaid : Prop := fnExactCountAutomorphismsUptoRow.holds Try.pinned (OpenSpec.upto fnExactCountAutomorphismsSpec)

/-- 'laws.FnExactAutomorphismsOf', WHERE WHAT IT READS IS OF BULK AT MOST 1048576: true; the input reads as it did. -/
def fnExactAutomorphismsOfUptoRow : OpenClaim := { program := "ytlkjacgpjolbdaa", sum := "0774ed20620713c82bea3edd6935b94b4eb96c4a09e8660f38d3d1db56e76696", func := "loop.example/g01355/laws.FnExactAutomorphismsOf", spec := "fnExactAutomorphismsOf", unfollowed := true, recurses := true, plainKeys := false, apart := false, narrowed := true }
def FnExactAutomorphismsOfUptoSaid : Prop := fnExactAutomorphismsOfUptoRow.holds Try.pinned (OpenSpec.upto fnExactAutomorphismsOfSpec)

/-- 'laws.FnExactPointOrbits', WHERE WHAT IT READS IS OF BULK AT MOST 1048576: true; the input reads as it did. -/
def fnExactPointOrbitsUptoRow : OpenClaim := { program := "ytlkjacgpjolbdaa", sum := "0774ed20620713c82bea3edd6935b94b4eb96c4a09e8660f38d3d1db56e76696", func := "loop.example/g01355/laws.FnExactPointOrbits", spec := "fnExactPointOrbits", unfollowed := true, recurses := true, plainKeys := false, apart := false, narrowed := true }
def FnExactPointOrbitsUptoSaid : Prop := fnExactPointOrbitsUptoRow.holds Try.pinned (OpenSpec.upto fnExactPointOrbitsSpec)

/-- 'laws.FnExactBlockOrbits', WHERE WHAT IT READS IS OF BULK AT MOST 1048576: true; the input reads as it did. -/
def fnExactBlockOrbitsUptoRow : OpenClaim := { program := "ytlkjacgpjolbdaa", sum := "0774ed20620713c82bea3edd6935b94b4eb96c4a09e8660f38d3d1db56e76696", func := "loop.example/g01355/laws.FnExactBlockOrbits", spec := "fnExactBlockOrbits", unfollowed := true, recurses := true, plainKeys := false, apart := false, narrowed := true }
def FnExactBlockOrbitsUptoSaid : Prop := fnExactBlockOrbitsUptoRow.holds Try.pinned (OpenSpec.upto fnExactBlockOrbitsSpec)

/-- 'laws.FnExactStabiliserNumber', WHERE WHAT IT READS IS OF BULK AT MOST 1048576: true; the input reads as it did. -/
def fnExactStabiliserNumberUptoRow : OpenClaim := { program := "ytlkjacgpjolbdaa", sum := "0774ed20620713c82bea3edd6935b94b4eb96c4a09e8660f38d3d1db56e76696", func := "loop.example/g01355/laws.FnExactStabiliserNumber", spec := "fnExactStabiliserNumber", unfollowed := true, recurses := true, plainKeys := false, apart := false, narrowed := true }
def FnExactStabiliserNumberUptoSaid : Prop := fnExactStabiliserNumberUptoRow.holds Try.pinned (OpenSpec.upto fnExactStabiliserNumberSpec)

/-- 'laws.FnExactKeptNumbers', WHERE WHAT IT READS IS OF BULK AT MOST 1048576: true; the input reads as it did. -/
def fnExactKeptNumbersUptoRow : OpenClaim := { program := "ytlkjacgpjolbdaa", sum := "0774ed20620713c82bea3edd6935b94b4eb96c4a09e8660f38d3d1db56e76696", func := "loop.example/g01355/laws.FnExactKeptNumbers", spec := "fnExactKeptNumbers", unfollowed := true, recurses := true, plainKeys := false, apart := false, narrowed := true }
def FnExactKeptNumbersUptoSaid : Prop := fnExactKeptNumbersUptoRow.holds Try.pinned (OpenSpec.upto fnExactKeptNumbersSpec)

/-- 'laws.FnExactGoesAround', WHERE WHAT IT READS IS OF BULK AT MOST 1048576: true; the input reads as it did. -/
def fnExactGoesAroundUptoRow : OpenClaim := { program := "ytlkjacgpjolbdaa", sum := "0774ed20620713c82bea3edd6935b94b4eb96c4a09e8660f38d3d1db56e76696", func := "loop.example/g01355/laws.FnExactGoesAround", spec := "fnExactGoesAround", unfollowed := true, recurses := true, plainKeys := false, apart := false, narrowed := true }
def FnExactGoesAroundUptoSaid : Prop := fnExactGoesAroundUptoRow.holds Try.pinned (OpenSpec.upto fnExactGoesAroundSpec)

end Rows
end Go.Proofs.Ytlkjacgpjolbdaa

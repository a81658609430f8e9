/-
  No cell of these rows narrows 'for every input' (looked for: loops, veiled, ifaces, maps, wideKeys, modest, calm, conditions, laid).
  DERIVED. THE GIVEN ROWS OF THIS SEAT. 8 by the template 'for every input the law returns true; each argument reads behind the call as it read before'; 0 by the template 'total and deterministic' (their statements: YtehdpgjbmnkkiaaTotals.lean).
  GIVEN WITH THE SEED: the statements are not yours to turn. If you find one false, say at which input.
  Laid BY PROGRAM, IN A SANDBOX (cutbox-rows.mjs): the forced cells as the released guide's own fill.sh prints them over the translation 3ffd2f7602da36fa… (all of the seat's roots in one cut). By AI agents, Wed Nov 11 2026. No macro, syntax, notation, axiom, sorry.
-/
import Derived.Test.YtehdpgjbmnkkiaaChecked
import GoSem.Claim
import GoSem.ClaimJoined
import GoSem.ClaimMapViews
import Derived.JoinedTies
import Derived.KernelRfl
namespace Go.Proofs.Ytehdpgjbmnkkiaa
/- THE CELL 'sum', in the pinned program and in every row, IS THE sha256 OF THE DUMP (.gsa) THAT YtehdpgjbmnkkiaaProg.lean LOADS. Nothing in Lean hashes anything: it is a label: what it is worth is what the hold of that sum in a sandbox is worth. -/
noncomputable def Try.pinned : Pinned := { name := "ytehdpgjbmnkkiaa", sum := "3ffd2f7602da36fa857f4794e2f6a68d0a7ab8f678e7e8037a36ddf113056594", checked := Try.checked }
namespace Rows
def none {H : Type} : Left H := { results := [], args := [] }

/-- 'laws.FnExactMitreList': WHATEVER THE INPUT: true; the input reads as it did. -/
def fnExactMitreListSpec : ChangeSpec := { name := "fnExactMitreList", fn := fun _ => fun
  | [d] => { results := [.lit (.bool true)], args := [d] }
  | _ => none }
def fnExactMitreListRow : OpenClaim := { program := "ytehdpgjbmnkkiaa", sum := "3ffd2f7602da36fa857f4794e2f6a68d0a7ab8f678e7e8037a36ddf113056594", func := "loop.example/g01355/laws.FnExactMitreList", spec := "fnExactMitreList", unfollowed := true, recurses := true, plainKeys := false, apart := false }
def FnExactMitreListSaid : Prop := fnExactMitreListRow.holds Try.pinned (OpenSpec.ofChange fnExactMitreListSpec)

/-- ITS FALSE NEIGHBOUR: 'it returns false'. Refute it at one input. -/
def fnExactMitreListWrong : ChangeSpec := { name := "fnExactMitreList", fn := fun _ => fun
  | [d] => { results := [.lit (.bool false)], args := [d] }
  | _ => none }
def FnExactMitreListWrongFalsely : Prop := fnExactMitreListRow.holds Try.pinned (OpenSpec.ofChange fnExactMitreListWrong)

/-- 'laws.FnExactCountMitres': WHATEVER THE INPUT: true; the input reads as it did. -/
def fnExactCountMitresSpec : ChangeSpec := { name := "fnExactCountMitres", fn := fun _ => fun
  | [d] => { results := [.lit (.bool true)], args := [d] }
  | _ => none }
def fnExactCountMitresRow : OpenClaim := { program := "ytehdpgjbmnkkiaa", sum := "3ffd2f7602da36fa857f4794e2f6a68d0a7ab8f678e7e8037a36ddf113056594", func := "loop.example/g01355/laws.FnExactCountMitres", spec := "fnExactCountMitres", unfollowed := true, recurses := true, plainKeys := false, apart := false }
def FnExactCountMitresSaid : Prop := fnExactCountMitresRow.holds Try.pinned (OpenSpec.ofChange fnExactCountMitresSpec)

/-- ITS FALSE NEIGHBOUR: 'it returns false'. Refute it at one input. -/
def fnExactCountMitresWrong : ChangeSpec := { name := "fnExactCountMitres", fn := fun _ => fun
  | [d] => { results := [.lit (.bool false)], args := [d] }
  | _ => none }
def FnExactCountMitresWrongFalsely : Prop := fnExactCountMitresRow.holds Try.pinned (OpenSpec.ofChange fnExactCountMitresWrong)

/-- 'laws.FnExactMitreCentres': WHATEVER THE INPUT: true; the input reads as it did. -/
def fnExactMitreCentresSpec : ChangeSpec := { name := "fnExactMitreCentres", fn := fun _ => fun
  | [d] => { results := [.lit (.bool true)], args := [d] }
  | _ => none }
def fnExactMitreCentresRow : OpenClaim := { program := "ytehdpgjbmnkkiaa", sum := "3ffd2f7602da36fa857f4794e2f6a68d0a7ab8f678e7e8037a36ddf113056594", func := "loop.example/g01355/laws.FnExactMitreCentres", spec := "fnExactMitreCentres", unfollowed := true, recurses := true, plainKeys := false, apart := false }
def FnExactMitreCentresSaid : Prop := fnExactMitreCentresRow.holds Try.pinned (OpenSpec.ofChange fnExactMitreCentresSpec)

/-- ITS FALSE NEIGHBOUR: 'it returns false'. Refute it at one input. -/
def fnExactMitreCentresWrong : ChangeSpec := { name := "fnExactMitreCentres", fn := fun _ => fun
  | [d] => { results := [.lit (.bool false)], args := [d] }
  | _ => none }
def FnExactMitreCentresWrongFalsely : Prop := fnExactMitreCentresRow.holds Try.pinned (OpenSpec.ofChange fnExactMitreCentresWrong)

/-- 'laws.FnExactTypesOf': WHATEVER THE INPUT: true; the input reads as it did. -/
def fnExactTypesOfSpec : ChangeSpec := { name := "fnExactTypesOf", fn := fun _ => fun
  | [d] => { results := [.lit (.bool true)], args := [d] }
  | _ => none }
def fnExactTypesOfRow : OpenClaim := { program := "ytehdpgjbmnkkiaa", sum := "3ffd2f7602da36fa857f4794e2f6a68d0a7ab8f678e7e8037a36ddf113056594", func := "loop.example/g01355/laws.FnExactTypesOf", spec := "fnExactTypesOf", unfollowed := true, recurses := true, plainKeys := false, apart := false }
def FnExactTypesOfSaid : Prop := fnExactTypesOfRow.holds Try.pinned (OpenSpec.ofChange fnExactTypesOfSpec)

/-- ITS FALSE NEIGHBOUR: 'it returns false'. Refute it at one input. -/
def fnExactTypesOfWrong : ChangeSpec := { name := "fnExactTypesOf", fn := fun _ => fun
  | [d] => { results := [.lit (.bool false)], args := [d] }
  | _ => none }
def FnExactTypesOfWrongFalsely : Prop := fnExactTypesOfRow.holds Try.pinned (OpenSpec.ofChange fnExactTypesOfWrong)

/-- 'laws.FnExactAreApart': WHATEVER THE INPUT: true; the input reads as it did. -/
def fnExactAreApartSpec : ChangeSpec := { name := "fnExactAreApart", fn := fun _ => fun
  | [d1, d2] => { results := [.lit (.bool true)], args := [d1, d2] }
  | _ => none }
def fnExactAreApartRow : OpenClaim := { program := "ytehdpgjbmnkkiaa", sum := "3ffd2f7602da36fa857f4794e2f6a68d0a7ab8f678e7e8037a36ddf113056594", func := "loop.example/g01355/laws.FnExactAreApart", spec := "fnExactAreApart", unfollowed := true, recurses := true, plainKeys := false, apart := false }
def FnExactAreApartSaid : Prop := fnExactAreApartRow.holds Try.pinned (OpenSpec.ofChange fnExactAreApartSpec)

/-- ITS FALSE NEIGHBOUR: 'it returns false'. Refute it at one input. -/
def fnExactAreApartWrong : ChangeSpec := { name := "fnExactAreApart", fn := fun _ => fun
  | [d1, d2] => { results := [.lit (.bool false)], args := [d1, d2] }
  | _ => none }
def FnExactAreApartWrongFalsely : Prop := fnExactAreApartRow.holds Try.pinned (OpenSpec.ofChange fnExactAreApartWrong)

/-- 'laws.FnExactTurnSystem': WHATEVER THE INPUT: true; the input reads as it did. -/
def fnExactTurnSystemSpec : ChangeSpec := { name := "fnExactTurnSystem", fn := fun _ => fun
  | [d1, d2] => { results := [.lit (.bool true)], args := [d1, d2] }
  | _ => none }
def fnExactTurnSystemRow : OpenClaim := { program := "ytehdpgjbmnkkiaa", sum := "3ffd2f7602da36fa857f4794e2f6a68d0a7ab8f678e7e8037a36ddf113056594", func := "loop.example/g01355/laws.FnExactTurnSystem", spec := "fnExactTurnSystem", unfollowed := true, recurses := true, plainKeys := false, apart := false }
def FnExactTurnSystemSaid : Prop := fnExactTurnSystemRow.holds Try.pinned (OpenSpec.ofChange fnExactTurnSystemSpec)

/-- ITS FALSE NEIGHBOUR: 'it returns false'. Refute it at one input. -/
def fnExactTurnSystemWrong : ChangeSpec := { name := "fnExactTurnSystem", fn := fun _ => fun
  | [d1, d2] => { results := [.lit (.bool false)], args := [d1, d2] }
  | _ => none }
def FnExactTurnSystemWrongFalsely : Prop := fnExactTurnSystemRow.holds Try.pinned (OpenSpec.ofChange fnExactTurnSystemWrong)

/-- 'laws.FnExactMateByTurning': WHATEVER THE INPUT: true; the input reads as it did. -/
def fnExactMateByTurningSpec : ChangeSpec := { name := "fnExactMateByTurning", fn := fun _ => fun
  | [d] => { results := [.lit (.bool true)], args := [d] }
  | _ => none }
def fnExactMateByTurningRow : OpenClaim := { program := "ytehdpgjbmnkkiaa", sum := "3ffd2f7602da36fa857f4794e2f6a68d0a7ab8f678e7e8037a36ddf113056594", func := "loop.example/g01355/laws.FnExactMateByTurning", spec := "fnExactMateByTurning", unfollowed := true, recurses := true, plainKeys := false, apart := false }
def FnExactMateByTurningSaid : Prop := fnExactMateByTurningRow.holds Try.pinned (OpenSpec.ofChange fnExactMateByTurningSpec)

/-- ITS FALSE NEIGHBOUR: 'it returns false'. Refute it at one input. -/
def fnExactMateByTurningWrong : ChangeSpec := { name := "fnExactMateByTurning", fn := fun _ => fun
  | [d] => { results := [.lit (.bool false)], args := [d] }
  | _ => none }
def FnExactMateByTurningWrongFalsely : Prop := fnExactMateByTurningRow.holds Try.pinned (OpenSpec.ofChange fnExactMateByTurningWrong)

/-- 'laws.FnExactIsFamily': WHATEVER THE INPUT: true; the input reads as it did. -/
def fnExactIsFamilySpec : ChangeSpec := { name := "fnExactIsFamily", fn := fun _ => fun
  | [d] => { results := [.lit (.bool true)], args := [d] }
  | _ => none }
def fnExactIsFamilyRow : OpenClaim := { program := "ytehdpgjbmnkkiaa", sum := "3ffd2f7602da36fa857f4794e2f6a68d0a7ab8f678e7e8037a36ddf113056594", func := "loop.example/g01355/laws.FnExactIsFamily", spec := "fnExactIsFamily", unfollowed := true, recurses := true, plainKeys := false, apart := false }
def FnExactIsFamilySaid : Prop := fnExactIsFamilyRow.holds Try.pinned (OpenSpec.ofChange fnExactIsFamilySpec)

/-- ITS FALSE NEIGHBOUR: 'it returns false'. Refute it at one input. -/
def fnExactIsFamilyWrong : ChangeSpec := { name := "fnExactIsFamily", fn := fun _ => fun
  | [d] => { results := [.lit (.bool false)], args := [d] }
  | _ => none }
def FnExactIsFamilyWrongFalsely : Prop := fnExactIsFamilyRow.holds Try.pinned (OpenSpec.ofChange fnExactIsFamilyWrong)

/- THE SECOND FORM. 'bulk': how many values and letters a reading holds, each counted each time it is reached (what is shared counts as often as it is met; a slice's spare places count too). A statement '..UptoSaid' is the law's where the arguments, and the package variables that the reading takes, are together of bulk at most 1048576: NARROWER than '..Said'. Prove '..Said' where nothing that the law and all that it calls make is longer than what came in: it says more and counts as full. Else prove '..UptoSaid'. A law counts once. -/
mutual
def uptoBulk {H : Type} : DataW H → Nat
  | .lit (.string bytes) => bytes.length + 1
  | .lit _ => 1
  | .nil => 1
  | .ptr d => uptoBulk d + 1
  | .slice elems spare => uptoBulkAll elems + uptoBulkAll spare + 1
  | .agg parts => uptoBulkAll parts + 1
  | .iface _ d => uptoBulk d + 1
  | .map entries => uptoBulkEntries entries + 1
  | .held _ => 1
def uptoBulkAll {H : Type} : List (DataW H) → Nat
  | [] => 0
  | d :: r => uptoBulk d + uptoBulkAll r
def uptoBulkEntries {H : Type} : List (Lit × DataW H) → Nat
  | [] => 0
  | x :: r => uptoBulkEntry x + uptoBulkEntries r
def uptoBulkEntry {H : Type} : Lit × DataW H → Nat
  | (.string bytes, d) => bytes.length + uptoBulk d + 1
  | (_, d) => uptoBulk d + 1
 end
def uptoSmall : (H : Type) → List (DataW H) → Bool := fun _ ds => decide (uptoBulkAll ds ≤ 1048576)
def OpenSpec.upto (s : _root_.Go.ChangeSpec) : _root_.Go.OpenSpec := { _root_.Go.OpenSpec.ofChange s with cond := some uptoSmall }

/-- 'laws.FnExactMitreList', WHERE WHAT IT READS IS OF BULK AT MOST 1048576: true; the input reads as it did. -/
def fnExactMitreListUptoRow : OpenClaim := { program := "ytehdpgjbmnkkiaa", sum := "3ffd2f7602da36fa857f4794e2f6a68d0a7ab8f678e7e8037a36ddf113056594", func := "loop.example/g01355/laws.FnExactMitreList", spec := "fnExactMitreList", unfollowed := true, recurses := true, plainKeys := false, apart := false, narrowed := true }
def FnExactMitreListUptoSaid : Prop := fnExactMitreListUptoRow.holds Try.pinned (OpenSpec.upto fnExactMitreListSpec)

/-- 'laws.FnExactCountMitres', WHERE WHAT IT READS IS OF BULK AT MOST 1048576: true; the input reads as it did. -/
def fnExactCountMitresUptoRow : OpenClaim := { program := "ytehdpgjbmnkkiaa", sum := "3ffd2f7602da36fa857f4794e2f6a68d0a7ab8f678e7e8037a36ddf113056594", func := "loop.example/g01355/laws.FnExactCountMitres", spec := "fnExactCountMitres", unfollowed := true, recurses := true, plainKeys := false, apart := false, narrowed := true }
def FnExactCountMitresUptoSaid : Prop := fnExactCountMitresUptoRow.holds Try.pinned (OpenSpec.upto fnExactCountMitresSpec)

/-- 'laws.FnExactMitreCentres', WHERE WHAT IT READS IS OF BULK AT MOST 1048576: true; the input reads as it did. -/
def fnExactMitreCentresUptoRow : OpenClaim := { program := "ytehdpgjbmnkkiaa", sum := "3ffd2f7602da36fa857f4794e2f6a68d0a7ab8f678e7e8037a36ddf113056594", func := "loop.example/g01355/laws.FnExactMitreCentres", spec := "fnExactMitreCentres", unfollowed := true, recurses := true, plainKeys := false, apart := false, narrowed := true }
def FnExactMitreCentresUptoSaid : Prop := fnExactMitreCentresUptoRow.holds Try.pinned (OpenSpec.upto fnExactMitreCentresSpec)

/-- 'laws.FnExactTypesOf', WHERE WHAT IT READS IS OF BULK AT MOST 1048576: true; the input reads as it did. -/
def fnExactTypesOfUptoRow : OpenClaim := { program := "ytehdpgjbmnkkiaa", sum := "3ffd2f7602da36fa857f4794e2f6a68d0a7ab8f678e7e8037a36ddf113056594", func := "loop.example/g01355/laws.FnExactTypesOf", spec := "fnExactTypesOf", unfollowed := true, recurses := true, plainKeys := false, apart := false, narrowed := true }
def FnExactTypesOfUptoSaid : Prop := fnExactTypesOfUptoRow.holds Try.pinned (OpenSpec.upto fnExactTypesOfSpec)

/-- 'laws.FnExactAreApart', WHERE WHAT IT READS IS OF BULK AT MOST 1048576: true; the input reads as it did. -/
def fnExactAreApartUptoRow : OpenClaim := { program := "ytehdpgjbmnkkiaa", sum := "3ffd2f7602da36fa857f4794e2f6a68d0a7ab8f678e7e8037a36ddf113056594", func := "loop.example/g01355/laws.FnExactAreApart", spec := "fnExactAreApart", unfollowed := true, recurses := true, plainKeys := false, apart := false, narrowed := true }
def FnExactAreApartUptoSaid : Prop := fnExactAreApartUptoRow.holds Try.pinned (OpenSpec.upto fnExactAreApartSpec)

/-- 'laws.FnExactTurnSystem', WHERE WHAT IT READS IS OF BULK AT MOST 1048576: true; the input reads as it did. -/
def fnExactTurnSystemUptoRow : OpenClaim := { program := "ytehdpgjbmnkkiaa", sum := "3ffd2f7602da36fa857f4794e2f6a68d0a7ab8f678e7e8037a36ddf113056594", func := "loop.example/g01355/laws.FnExactTurnSystem", spec := "fnExactTurnSystem", unfollowed := true, recurses := true, plainKeys := false, apart := false, narrowed := true }
def FnExactTurnSystemUptoSaid : Prop := fnExactTurnSystemUptoRow.holds Try.pinned (OpenSpec.upto fnExactTurnSystemSpec)

/-- 'laws.FnExactMateByTurning', WHERE WHAT IT READS IS OF BULK AT MOST 1048576: true; the input reads as it did. -/
def fnExactMateByTurningUptoRow : OpenClaim := { program := "ytehdpgjbmnkkiaa", sum := "3ffd2f7602da36fa857f4794e2f6a68d0a7ab8f678e7e8037a36ddf113056594", func := "loop.example/g01355/laws.FnExactMateByTurning", spec := "fnExactMateByTurning", unfollowed := true, recurses := true, plainKeys := false, apart := false, narrowed := true }
def FnExactMateByTurningUptoSaid : Prop := fnExactMateByTurningUptoRow.holds Try.pinned (OpenSpec.upto fnExactMateByTurningSpec)

/-- 'laws.FnExactIsFamily', WHERE WHAT IT READS IS OF BULK AT MOST 1048576: true; the input reads as it did. -/
def fnExactIsFamilyUptoRow : OpenClaim := { program := "ytehdpgjbmnkkiaa", sum := "3ffd2f7602da36fa857f4794e2f6a68d0a7ab8f678e7e8037a36ddf113056594", func := "loop.example/g01355/laws.FnExactIsFamily", spec := "fnExactIsFamily", unfollowed := true, recurses := true, plainKeys := false, apart := false, narrowed := true }
def FnExactIsFamilyUptoSaid : Prop := fnExactIsFamilyUptoRow.holds Try.pinned (OpenSpec.upto fnExactIsFamilySpec)

end Rows
end Go.Proofs.Ytehdpgjbmnkkiaa

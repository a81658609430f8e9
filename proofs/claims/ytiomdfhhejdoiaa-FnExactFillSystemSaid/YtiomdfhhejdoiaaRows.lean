/-
  No cell of these rows narrows 'for every input' (looked for: loops, veiled, ifaces, maps, wideKeys, modest, calm, conditions, laid).
  DERIVED. THE GIVEN ROWS OF THIS SEAT. 9 by the template 'for every input the law returns true; each argument reads behind the call as it read before'; 0 by the template 'total and deterministic' (their statements: YtiomdfhhejdoiaaTotals.lean).
  GIVEN WITH THE SEED: the statements are not yours to turn. If you find one false, say at which input.
  Laid BY PROGRAM, IN A SANDBOX (cutbox-rows.mjs): the forced cells as the released guide's own fill.sh prints them over the translation 1efda9f0b6b3d773… (all of the seat's roots in one cut). By AI agents, Wed Nov 11 2026. No macro, syntax, notation, axiom, sorry.
-/
import Derived.Test.YtiomdfhhejdoiaaChecked
import GoSem.Claim
import GoSem.ClaimJoined
import GoSem.ClaimMapViews
import Derived.JoinedTies
import Derived.KernelRfl
namespace Go.Proofs.Ytiomdfhhejdoiaa
/- THE CELL 'sum', in the pinned program and in every row, IS THE sha256 OF THE DUMP (.gsa) THAT YtiomdfhhejdoiaaProg.lean LOADS. Nothing in Lean hashes anything: it is a label: what it is worth is what the hold of that sum in a sandbox is worth. -/
noncomputable def Try.pinned : Pinned := { name := "ytiomdfhhejdoiaa", sum := "1efda9f0b6b3d77356f06f80d9db19f9ab3a414d63c58f179666ebb066ca0fc8", checked := Try.checked }
namespace Rows
def none {H : Type} : Left H := { results := [], args := [] }

/-- 'laws.FnExactLeaveDegrees': WHATEVER THE INPUT: true; the input reads as it did. -/
def fnExactLeaveDegreesSpec : ChangeSpec := { name := "fnExactLeaveDegrees", fn := fun _ => fun
  | [d] => { results := [.lit (.bool true)], args := [d] }
  | _ => none }
def fnExactLeaveDegreesRow : OpenClaim := { program := "ytiomdfhhejdoiaa", sum := "1efda9f0b6b3d77356f06f80d9db19f9ab3a414d63c58f179666ebb066ca0fc8", func := "loop.example/g01355/laws.FnExactLeaveDegrees", spec := "fnExactLeaveDegrees", plainKeys := false, apart := false }
def FnExactLeaveDegreesSaid : Prop := fnExactLeaveDegreesRow.holds Try.pinned (OpenSpec.ofChange fnExactLeaveDegreesSpec)

/-- ITS FALSE NEIGHBOUR: 'it returns false'. Refute it at one input. -/
def fnExactLeaveDegreesWrong : ChangeSpec := { name := "fnExactLeaveDegrees", fn := fun _ => fun
  | [d] => { results := [.lit (.bool false)], args := [d] }
  | _ => none }
def FnExactLeaveDegreesWrongFalsely : Prop := fnExactLeaveDegreesRow.holds Try.pinned (OpenSpec.ofChange fnExactLeaveDegreesWrong)

/-- 'laws.FnExactIsStuck': WHATEVER THE INPUT: true; the input reads as it did. -/
def fnExactIsStuckSpec : ChangeSpec := { name := "fnExactIsStuck", fn := fun _ => fun
  | [d] => { results := [.lit (.bool true)], args := [d] }
  | _ => none }
def fnExactIsStuckRow : OpenClaim := { program := "ytiomdfhhejdoiaa", sum := "1efda9f0b6b3d77356f06f80d9db19f9ab3a414d63c58f179666ebb066ca0fc8", func := "loop.example/g01355/laws.FnExactIsStuck", spec := "fnExactIsStuck", unfollowed := true, recurses := true, plainKeys := false, apart := false }
def FnExactIsStuckSaid : Prop := fnExactIsStuckRow.holds Try.pinned (OpenSpec.ofChange fnExactIsStuckSpec)

/-- ITS FALSE NEIGHBOUR: 'it returns false'. Refute it at one input. -/
def fnExactIsStuckWrong : ChangeSpec := { name := "fnExactIsStuck", fn := fun _ => fun
  | [d] => { results := [.lit (.bool false)], args := [d] }
  | _ => none }
def FnExactIsStuckWrongFalsely : Prop := fnExactIsStuckRow.holds Try.pinned (OpenSpec.ofChange fnExactIsStuckWrong)

/-- 'laws.FnExactFillSystem': WHATEVER THE INPUT: true; the input reads as it did. -/
def fnExactFillSystemSpec : ChangeSpec := { name := "fnExactFillSystem", fn := fun _ => fun
  | [d] => { results := [.lit (.bool true)], args := [d] }
  | _ => none }
def fnExactFillSystemRow : OpenClaim := { program := "ytiomdfhhejdoiaa", sum := "1efda9f0b6b3d77356f06f80d9db19f9ab3a414d63c58f179666ebb066ca0fc8", func := "loop.example/g01355/laws.FnExactFillSystem", spec := "fnExactFillSystem", unfollowed := true, recurses := true, plainKeys := false, apart := false }
def FnExactFillSystemSaid : Prop := fnExactFillSystemRow.holds Try.pinned (OpenSpec.ofChange fnExactFillSystemSpec)

/-- ITS FALSE NEIGHBOUR: 'it returns false'. Refute it at one input. -/
def fnExactFillSystemWrong : ChangeSpec := { name := "fnExactFillSystem", fn := fun _ => fun
  | [d] => { results := [.lit (.bool false)], args := [d] }
  | _ => none }
def FnExactFillSystemWrongFalsely : Prop := fnExactFillSystemRow.holds Try.pinned (OpenSpec.ofChange fnExactFillSystemWrong)

/-- 'laws.FnExactMissingNumber': WHATEVER THE INPUT: true; the input reads as it did. -/
def fnExactMissingNumberSpec : ChangeSpec := { name := "fnExactMissingNumber", fn := fun _ => fun
  | [d] => { results := [.lit (.bool true)], args := [d] }
  | _ => none }
def fnExactMissingNumberRow : OpenClaim := { program := "ytiomdfhhejdoiaa", sum := "1efda9f0b6b3d77356f06f80d9db19f9ab3a414d63c58f179666ebb066ca0fc8", func := "loop.example/g01355/laws.FnExactMissingNumber", spec := "fnExactMissingNumber", plainKeys := false, apart := false }
def FnExactMissingNumberSaid : Prop := fnExactMissingNumberRow.holds Try.pinned (OpenSpec.ofChange fnExactMissingNumberSpec)

/-- ITS FALSE NEIGHBOUR: 'it returns false'. Refute it at one input. -/
def fnExactMissingNumberWrong : ChangeSpec := { name := "fnExactMissingNumber", fn := fun _ => fun
  | [d] => { results := [.lit (.bool false)], args := [d] }
  | _ => none }
def FnExactMissingNumberWrongFalsely : Prop := fnExactMissingNumberRow.holds Try.pinned (OpenSpec.ofChange fnExactMissingNumberWrong)

/-- 'laws.FnExactTypesOf': WHATEVER THE INPUT: true; the input reads as it did. -/
def fnExactTypesOfSpec : ChangeSpec := { name := "fnExactTypesOf", fn := fun _ => fun
  | [d] => { results := [.lit (.bool true)], args := [d] }
  | _ => none }
def fnExactTypesOfRow : OpenClaim := { program := "ytiomdfhhejdoiaa", sum := "1efda9f0b6b3d77356f06f80d9db19f9ab3a414d63c58f179666ebb066ca0fc8", func := "loop.example/g01355/laws.FnExactTypesOf", spec := "fnExactTypesOf", unfollowed := true, recurses := true, plainKeys := false, apart := false }
def FnExactTypesOfSaid : Prop := fnExactTypesOfRow.holds Try.pinned (OpenSpec.ofChange fnExactTypesOfSpec)

/-- ITS FALSE NEIGHBOUR: 'it returns false'. Refute it at one input. -/
def fnExactTypesOfWrong : ChangeSpec := { name := "fnExactTypesOf", fn := fun _ => fun
  | [d] => { results := [.lit (.bool false)], args := [d] }
  | _ => none }
def FnExactTypesOfWrongFalsely : Prop := fnExactTypesOfRow.holds Try.pinned (OpenSpec.ofChange fnExactTypesOfWrong)

/-- 'laws.FnExactPaschList': WHATEVER THE INPUT: true; the input reads as it did. -/
def fnExactPaschListSpec : ChangeSpec := { name := "fnExactPaschList", fn := fun _ => fun
  | [d] => { results := [.lit (.bool true)], args := [d] }
  | _ => none }
def fnExactPaschListRow : OpenClaim := { program := "ytiomdfhhejdoiaa", sum := "1efda9f0b6b3d77356f06f80d9db19f9ab3a414d63c58f179666ebb066ca0fc8", func := "loop.example/g01355/laws.FnExactPaschList", spec := "fnExactPaschList", recurses := true, plainKeys := false, apart := false }
def FnExactPaschListSaid : Prop := fnExactPaschListRow.holds Try.pinned (OpenSpec.ofChange fnExactPaschListSpec)

/-- ITS FALSE NEIGHBOUR: 'it returns false'. Refute it at one input. -/
def fnExactPaschListWrong : ChangeSpec := { name := "fnExactPaschList", fn := fun _ => fun
  | [d] => { results := [.lit (.bool false)], args := [d] }
  | _ => none }
def FnExactPaschListWrongFalsely : Prop := fnExactPaschListRow.holds Try.pinned (OpenSpec.ofChange fnExactPaschListWrong)

/-- 'laws.FnExactCountPasch': WHATEVER THE INPUT: true; the input reads as it did. -/
def fnExactCountPaschSpec : ChangeSpec := { name := "fnExactCountPasch", fn := fun _ => fun
  | [d] => { results := [.lit (.bool true)], args := [d] }
  | _ => none }
def fnExactCountPaschRow : OpenClaim := { program := "ytiomdfhhejdoiaa", sum := "1efda9f0b6b3d77356f06f80d9db19f9ab3a414d63c58f179666ebb066ca0fc8", func := "loop.example/g01355/laws.FnExactCountPasch", spec := "fnExactCountPasch", recurses := true, plainKeys := false, apart := false }
def FnExactCountPaschSaid : Prop := fnExactCountPaschRow.holds Try.pinned (OpenSpec.ofChange fnExactCountPaschSpec)

/-- ITS FALSE NEIGHBOUR: 'it returns false'. Refute it at one input. -/
def fnExactCountPaschWrong : ChangeSpec := { name := "fnExactCountPasch", fn := fun _ => fun
  | [d] => { results := [.lit (.bool false)], args := [d] }
  | _ => none }
def FnExactCountPaschWrongFalsely : Prop := fnExactCountPaschRow.holds Try.pinned (OpenSpec.ofChange fnExactCountPaschWrong)

/-- 'laws.FnExactPaschAtPoints': WHATEVER THE INPUT: true; the input reads as it did. -/
def fnExactPaschAtPointsSpec : ChangeSpec := { name := "fnExactPaschAtPoints", fn := fun _ => fun
  | [d] => { results := [.lit (.bool true)], args := [d] }
  | _ => none }
def fnExactPaschAtPointsRow : OpenClaim := { program := "ytiomdfhhejdoiaa", sum := "1efda9f0b6b3d77356f06f80d9db19f9ab3a414d63c58f179666ebb066ca0fc8", func := "loop.example/g01355/laws.FnExactPaschAtPoints", spec := "fnExactPaschAtPoints", recurses := true, plainKeys := false, apart := false }
def FnExactPaschAtPointsSaid : Prop := fnExactPaschAtPointsRow.holds Try.pinned (OpenSpec.ofChange fnExactPaschAtPointsSpec)

/-- ITS FALSE NEIGHBOUR: 'it returns false'. Refute it at one input. -/
def fnExactPaschAtPointsWrong : ChangeSpec := { name := "fnExactPaschAtPoints", fn := fun _ => fun
  | [d] => { results := [.lit (.bool false)], args := [d] }
  | _ => none }
def FnExactPaschAtPointsWrongFalsely : Prop := fnExactPaschAtPointsRow.holds Try.pinned (OpenSpec.ofChange fnExactPaschAtPointsWrong)

/-- 'laws.FnExactPaschTrades': WHATEVER THE INPUT: true; the input reads as it did. -/
def fnExactPaschTradesSpec : ChangeSpec := { name := "fnExactPaschTrades", fn := fun _ => fun
  | [d] => { results := [.lit (.bool true)], args := [d] }
  | _ => none }
def fnExactPaschTradesRow : OpenClaim := { program := "ytiomdfhhejdoiaa", sum := "1efda9f0b6b3d77356f06f80d9db19f9ab3a414d63c58f179666ebb066ca0fc8", func := "loop.example/g01355/laws.FnExactPaschTrades", spec := "fnExactPaschTrades", unfollowed := true, recurses := true, plainKeys := false, apart := false }
def FnExactPaschTradesSaid : Prop := fnExactPaschTradesRow.holds Try.pinned (OpenSpec.ofChange fnExactPaschTradesSpec)

/-- ITS FALSE NEIGHBOUR: 'it returns false'. Refute it at one input. -/
def fnExactPaschTradesWrong : ChangeSpec := { name := "fnExactPaschTrades", fn := fun _ => fun
  | [d] => { results := [.lit (.bool false)], args := [d] }
  | _ => none }
def FnExactPaschTradesWrongFalsely : Prop := fnExactPaschTradesRow.holds Try.pinned (OpenSpec.ofChange fnExactPaschTradesWrong)

/- THE SECOND FORM. 'bulk': how many values and letters a reading holds, each counted each time it is reached (what is shared counts as often as it is met; a slice's spare places count too). A statement '..UptoSaid' is the law's where the arguments, and the package variables that the reading takes, are together of bulk at most 1048576: NARROWER than '..Said'. Prove '..Said' where nothing that the law and all that it calls make is longer than what came in: it says more and counts as full. Else prove '..UptoSaid'. A law counts once. -/
mutual
def uptoBulk {H : Type} : DataW H → Nat
  | .lit (.string bytes) => bytes.length + 1
  | .lit _ => 1
  | .nil => 1
  | .ptr d => uptoBulk d + 1
  | .slice elems spare => uptoBulkAll elems + uptoBulkAll spare + 1
  | .agg parts => uptoBulkAll parts + 1
  | .iface _ d => uptoBulk d + 1
  | .map entries => uptoBulkEntries entries + 1
  | .held _ => 1
def uptoBulkAll {H : Type} : List (DataW H) → Nat
  | [] => 0
  | d :: r => uptoBulk d + uptoBulkAll r
def uptoBulkEntries {H : Type} : List (Lit × DataW H) → Nat
  | [] => 0
  | x :: r => uptoBulkEntry x + uptoBulkEntries r
def uptoBulkEntry {H : Type} : Lit × DataW H → Nat
  | (.string bytes, d) => bytes.length + uptoBulk d + 1
  | (_, d) => uptoBulk d + 1
 end
def uptoSmall : (H : Type) → List (DataW H) → Bool := fun _ ds => decide (uptoBulkAll ds ≤ 1048576)
def OpenSpec.upto (s : _root_.Go.ChangeSpec) : _root_.Go.OpenSpec := { _root_.Go.OpenSpec.ofChange s with cond := some uptoSmall }

/-- 'laws.FnExactLeaveDegrees', WHERE WHAT IT READS IS OF BULK AT MOST 1048576: true; the input reads as it did. -/
def fnExactLeaveDegreesUptoRow : OpenClaim := { program := "ytiomdfhhejdoiaa", sum := "1efda9f0b6b3d77356f06f80d9db19f9ab3a414d63c58f179666ebb066ca0fc8", func := "loop.example/g01355/laws.FnExactLeaveDegrees", spec := "fnExactLeaveDegrees", plainKeys := false, apart := false, narrowed := true }
def FnExactLeaveDegreesUptoSaid : Prop := fnExactLeaveDegreesUptoRow.holds Try.pinned (OpenSpec.upto fnExactLeaveDegreesSpec)

/-- 'laws.FnExactIsStuck', WHERE WHAT IT READS IS OF BULK AT MOST 1048576: true; the input reads as it did. -/
def fnExactIsStuckUptoRow : OpenClaim := { program := "ytiomdfhhejdoiaa", sum := "1efda9f0b6b3d77356f06f80d9db19f9ab3a414d63c58f179666ebb066ca0fc8", func := "loop.example/g01355/laws.FnExactIsStuck", spec := "fnExactIsStuck", unfollowed := true, recurses := true, plainKeys := false, apart := false, narrowed := true }
def FnExactIsStuckUptoSaid : Prop := fnExactIsStuckUptoRow.holds Try.pinned (OpenSpec.upto fnExactIsStuckSpec)

/-- 'laws.FnExactFillSystem', WHERE WHAT IT READS IS OF BULK AT MOST 1048576: true; the input reads as it did. -/
def fnExactFillSystemUptoRow : OpenClaim := { program := "ytiomdfhhejdoiaa", sum := "1efda9f0b6b3d77356f06f80d9db19f9ab3a414d63c58f179666ebb066ca0fc8", func := "loop.example/g01355/laws.FnExactFillSystem", spec := "fnExactFillSystem", unfollowed := true, recurses := true, plainKeys := false, apart := false, narrowed := true }
def FnExactFillSystemUptoSaid : Prop := fnExactFillSystemUptoRow.holds Try.pinned (OpenSpec.upto fnExactFillSystemSpec)

/-- 'laws.FnExactMissingNumber', WHERE WHAT IT READS IS OF BULK AT MOST 1048576: true; the input reads as it did. -/
def fnExactMissingNumberUptoRow : OpenClaim := { program := "ytiomdfhhejdoiaa", sum := "1efda9f0b6b3d77356f06f80d9db19f9ab3a414d63c58f179666ebb066ca0fc8", func := "loop.example/g01355/laws.FnExactMissingNumber", spec := "fnExactMissingNumber", plainKeys := false, apart := false, narrowed := true }
def FnExactMissingNumberUptoSaid : Prop := fnExactMissingNumberUptoRow.holds Try.pinned (OpenSpec.upto fnExactMissingNumberSpec)

/-- 'laws.FnExactTypesOf', WHERE WHAT IT READS IS OF BULK AT MOST 1048576: true; the input reads as it did. -/
def fnExactTypesOfUptoRow : OpenClaim := { program := "ytiomdfhhejdoiaa", sum := "1efda9f0b6b3d77356f06f80d9db19f9ab3a414d63c58f179666ebb066ca0fc8", func := "loop.example/g01355/laws.FnExactTypesOf", spec := "fnExactTypesOf", unfollowed := true, recurses := true, plainKeys := false, apart := false, narrowed := true }
def FnExactTypesOfUptoSaid : Prop := fnExactTypesOfUptoRow.holds Try.pinned (OpenSpec.upto fnExactTypesOfSpec)

/-- 'laws.FnExactPaschList', WHERE WHAT IT READS IS OF BULK AT MOST 1048576: true; the input reads as it did. -/
def fnExactPaschListUptoRow : OpenClaim := { program := "ytiomdfhhejdoiaa", sum := "1efda9f0b6b3d77356f06f80d9db19f9ab3a414d63c58f179666ebb066ca0fc8", func := "loop.example/g01355/laws.FnExactPaschList", spec := "fnExactPaschList", recurses := true, plainKeys := false, apart := false, narrowed := true }
def FnExactPaschListUptoSaid : Prop := fnExactPaschListUptoRow.holds Try.pinned (OpenSpec.upto fnExactPaschListSpec)

/-- 'laws.FnExactCountPasch', WHERE WHAT IT READS IS OF BULK AT MOST 1048576: true; the input reads as it did. -/
def fnExactCountPaschUptoRow : OpenClaim := { program := "ytiomdfhhejdoiaa", sum := "1efda9f0b6b3d77356f06f80d9db19f9ab3a414d63c58f179666ebb066ca0fc8", func := "loop.example/g01355/laws.FnExactCountPasch", spec := "fnExactCountPasch", recurses := true, plainKeys := false, apart := false, narrowed := true }
def FnExactCountPaschUptoSaid : Prop := fnExactCountPaschUptoRow.holds Try.pinned (OpenSpec.upto fnExactCountPaschSpec)

/-- 'laws.FnExactPaschAtPoints', WHERE WHAT IT READS IS OF BULK AT MOST 1048576: true; the input reads as it did. -/
def fnExactPaschAtPointsUptoRow : OpenClaim := { program := "ytiomdfhhejdoiaa", sum := "1efda9f0b6b3d77356f06f80d9db19f9ab3a414d63c58f179666ebb066ca0fc8", func := "loop.example/g01355/laws.FnExactPaschAtPoints", spec := "fnExactPaschAtPoints", recurses := true, plainKeys := false, apart := false, narrowed := true }
def FnExactPaschAtPointsUptoSaid : Prop := fnExactPaschAtPointsUptoRow.holds Try.pinned (OpenSpec.upto fnExactPaschAtPointsSpec)

/-- 'laws.FnExactPaschTrades', WHERE WHAT IT READS IS OF BULK AT MOST 1048576: true; the input reads as it did. -/
def fnExactPaschTradesUptoRow : OpenClaim := { program := "ytiomdfhhejdoiaa", sum := "1efda9f0b6b3d77356f06f80d9db19f9ab3a414d63c58f179666ebb066ca0fc8", func := "loop.example/g01355/laws.FnExactPaschTrades", spec := "fnExactPaschTrades", unfollowed := true, recurses := true, plainKeys := false, apart := false, narrowed := true }
def FnExactPaschTradesUptoSaid : Prop := fnExactPaschTradesUptoRow.holds Try.pinned (OpenSpec.upto fnExactPaschTradesSpec)

end Rows
end Go.Proofs.Ytiomdfhhejdoiaa

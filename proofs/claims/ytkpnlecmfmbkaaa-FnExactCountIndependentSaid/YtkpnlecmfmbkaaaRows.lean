/-
  No cell of these rows narrows 'for every input' (looked for: loops, veiled, ifaces, maps, wideKeys, modest, calm, conditions, laid).
  DERIVED. THE GIVEN ROWS OF THIS SEAT. 21 by the template 'for every input the law returns true; each argument reads behind the call as it read before'; 0 by the template 'total and deterministic' (their statements: YtkpnlecmfmbkaaaTotals.lean).
  GIVEN WITH THE SEED: the statements are not yours to turn. If you find one false, say at which input.
  Laid BY PROGRAM, IN A SANDBOX (cutbox-rows.mjs): the forced cells as the released guide's own fill.sh prints them over the translation a927a5d0fc6fe92a… (all of the seat's roots in one cut). By AI agents, Wed Nov 11 2026. No macro, syntax, notation, axiom, sorry.
-/
import Derived.Test.YtkpnlecmfmbkaaaChecked
import GoSem.Claim
import GoSem.ClaimJoined
import GoSem.ClaimMapViews
import Derived.JoinedTies
import Derived.KernelRfl
namespace Go.Proofs.Ytkpnlecmfmbkaaa
/- THE CELL 'sum', in the pinned program and in every row, IS THE sha256 OF THE DUMP (.gsa) THAT YtkpnlecmfmbkaaaProg.lean LOADS. Nothing in Lean hashes anything: it is a label: what it is worth is what the hold of that sum in a sandbox is worth. -/
noncomputable def Try.pinned : Pinned := { name := "ytkpnlecmfmbkaaa", sum := "a927a5d0fc6fe92a8264723e7d0e20fe1f7a7a3170a4cb4f6b6a614e073185d8", checked := Try.checked }
namespace Rows
def none {H : Type} : Left H := { results := [], args := [] }

/-- 'laws.FnExactTypesOf': WHATEVER THE INPUT: true; the input reads as it did. -/
def fnExactTypesOfSpec : ChangeSpec := { name := "fnExactTypesOf", fn := fun _ => fun
  | [d] => { results := [.lit (.bool true)], args := [d] }
  | _ => none }
def fnExactTypesOfRow : OpenClaim := { program := "ytkpnlecmfmbkaaa", sum := "a927a5d0fc6fe92a8264723e7d0e20fe1f7a7a3170a4cb4f6b6a614e073185d8", func := "loop.example/g01355/laws.FnExactTypesOf", spec := "fnExactTypesOf", unfollowed := true, recurses := true, plainKeys := false, leaving := true, apart := false }
def FnExactTypesOfSaid : Prop := fnExactTypesOfRow.holds Try.pinned (OpenSpec.ofChange fnExactTypesOfSpec)

/-- ITS FALSE NEIGHBOUR: 'it returns false'. Refute it at one input. -/
def fnExactTypesOfWrong : ChangeSpec := { name := "fnExactTypesOf", fn := fun _ => fun
  | [d] => { results := [.lit (.bool false)], args := [d] }
  | _ => none }
def FnExactTypesOfWrongFalsely : Prop := fnExactTypesOfRow.holds Try.pinned (OpenSpec.ofChange fnExactTypesOfWrong)

/-- 'laws.FnExactPaschList': WHATEVER THE INPUT: true; the input reads as it did. -/
def fnExactPaschListSpec : ChangeSpec := { name := "fnExactPaschList", fn := fun _ => fun
  | [d] => { results := [.lit (.bool true)], args := [d] }
  | _ => none }
def fnExactPaschListRow : OpenClaim := { program := "ytkpnlecmfmbkaaa", sum := "a927a5d0fc6fe92a8264723e7d0e20fe1f7a7a3170a4cb4f6b6a614e073185d8", func := "loop.example/g01355/laws.FnExactPaschList", spec := "fnExactPaschList", recurses := true, plainKeys := false, apart := false }
def FnExactPaschListSaid : Prop := fnExactPaschListRow.holds Try.pinned (OpenSpec.ofChange fnExactPaschListSpec)

/-- ITS FALSE NEIGHBOUR: 'it returns false'. Refute it at one input. -/
def fnExactPaschListWrong : ChangeSpec := { name := "fnExactPaschList", fn := fun _ => fun
  | [d] => { results := [.lit (.bool false)], args := [d] }
  | _ => none }
def FnExactPaschListWrongFalsely : Prop := fnExactPaschListRow.holds Try.pinned (OpenSpec.ofChange fnExactPaschListWrong)

/-- 'laws.FnExactCountPasch': WHATEVER THE INPUT: true; the input reads as it did. -/
def fnExactCountPaschSpec : ChangeSpec := { name := "fnExactCountPasch", fn := fun _ => fun
  | [d] => { results := [.lit (.bool true)], args := [d] }
  | _ => none }
def fnExactCountPaschRow : OpenClaim := { program := "ytkpnlecmfmbkaaa", sum := "a927a5d0fc6fe92a8264723e7d0e20fe1f7a7a3170a4cb4f6b6a614e073185d8", func := "loop.example/g01355/laws.FnExactCountPasch", spec := "fnExactCountPasch", recurses := true, plainKeys := false, apart := false }
def FnExactCountPaschSaid : Prop := fnExactCountPaschRow.holds Try.pinned (OpenSpec.ofChange fnExactCountPaschSpec)

/-- ITS FALSE NEIGHBOUR: 'it returns false'. Refute it at one input. -/
def fnExactCountPaschWrong : ChangeSpec := { name := "fnExactCountPasch", fn := fun _ => fun
  | [d] => { results := [.lit (.bool false)], args := [d] }
  | _ => none }
def FnExactCountPaschWrongFalsely : Prop := fnExactCountPaschRow.holds Try.pinned (OpenSpec.ofChange fnExactCountPaschWrong)

/-- 'laws.FnExactPaschAtPoints': WHATEVER THE INPUT: true; the input reads as it did. -/
def fnExactPaschAtPointsSpec : ChangeSpec := { name := "fnExactPaschAtPoints", fn := fun _ => fun
  | [d] => { results := [.lit (.bool true)], args := [d] }
  | _ => none }
def fnExactPaschAtPointsRow : OpenClaim := { program := "ytkpnlecmfmbkaaa", sum := "a927a5d0fc6fe92a8264723e7d0e20fe1f7a7a3170a4cb4f6b6a614e073185d8", func := "loop.example/g01355/laws.FnExactPaschAtPoints", spec := "fnExactPaschAtPoints", recurses := true, plainKeys := false, apart := false }
def FnExactPaschAtPointsSaid : Prop := fnExactPaschAtPointsRow.holds Try.pinned (OpenSpec.ofChange fnExactPaschAtPointsSpec)

/-- ITS FALSE NEIGHBOUR: 'it returns false'. Refute it at one input. -/
def fnExactPaschAtPointsWrong : ChangeSpec := { name := "fnExactPaschAtPoints", fn := fun _ => fun
  | [d] => { results := [.lit (.bool false)], args := [d] }
  | _ => none }
def FnExactPaschAtPointsWrongFalsely : Prop := fnExactPaschAtPointsRow.holds Try.pinned (OpenSpec.ofChange fnExactPaschAtPointsWrong)

/-- 'laws.FnExactMitreList': WHATEVER THE INPUT: true; the input reads as it did. -/
def fnExactMitreListSpec : ChangeSpec := { name := "fnExactMitreList", fn := fun _ => fun
  | [d] => { results := [.lit (.bool true)], args := [d] }
  | _ => none }
def fnExactMitreListRow : OpenClaim := { program := "ytkpnlecmfmbkaaa", sum := "a927a5d0fc6fe92a8264723e7d0e20fe1f7a7a3170a4cb4f6b6a614e073185d8", func := "loop.example/g01355/laws.FnExactMitreList", spec := "fnExactMitreList", unfollowed := true, recurses := true, plainKeys := false, leaving := true, apart := false }
def FnExactMitreListSaid : Prop := fnExactMitreListRow.holds Try.pinned (OpenSpec.ofChange fnExactMitreListSpec)

/-- ITS FALSE NEIGHBOUR: 'it returns false'. Refute it at one input. -/
def fnExactMitreListWrong : ChangeSpec := { name := "fnExactMitreList", fn := fun _ => fun
  | [d] => { results := [.lit (.bool false)], args := [d] }
  | _ => none }
def FnExactMitreListWrongFalsely : Prop := fnExactMitreListRow.holds Try.pinned (OpenSpec.ofChange fnExactMitreListWrong)

/-- 'laws.FnExactCountMitres': WHATEVER THE INPUT: true; the input reads as it did. -/
def fnExactCountMitresSpec : ChangeSpec := { name := "fnExactCountMitres", fn := fun _ => fun
  | [d] => { results := [.lit (.bool true)], args := [d] }
  | _ => none }
def fnExactCountMitresRow : OpenClaim := { program := "ytkpnlecmfmbkaaa", sum := "a927a5d0fc6fe92a8264723e7d0e20fe1f7a7a3170a4cb4f6b6a614e073185d8", func := "loop.example/g01355/laws.FnExactCountMitres", spec := "fnExactCountMitres", unfollowed := true, recurses := true, plainKeys := false, leaving := true, apart := false }
def FnExactCountMitresSaid : Prop := fnExactCountMitresRow.holds Try.pinned (OpenSpec.ofChange fnExactCountMitresSpec)

/-- ITS FALSE NEIGHBOUR: 'it returns false'. Refute it at one input. -/
def fnExactCountMitresWrong : ChangeSpec := { name := "fnExactCountMitres", fn := fun _ => fun
  | [d] => { results := [.lit (.bool false)], args := [d] }
  | _ => none }
def FnExactCountMitresWrongFalsely : Prop := fnExactCountMitresRow.holds Try.pinned (OpenSpec.ofChange fnExactCountMitresWrong)

/-- 'laws.FnExactMitreCentres': WHATEVER THE INPUT: true; the input reads as it did. -/
def fnExactMitreCentresSpec : ChangeSpec := { name := "fnExactMitreCentres", fn := fun _ => fun
  | [d] => { results := [.lit (.bool true)], args := [d] }
  | _ => none }
def fnExactMitreCentresRow : OpenClaim := { program := "ytkpnlecmfmbkaaa", sum := "a927a5d0fc6fe92a8264723e7d0e20fe1f7a7a3170a4cb4f6b6a614e073185d8", func := "loop.example/g01355/laws.FnExactMitreCentres", spec := "fnExactMitreCentres", unfollowed := true, recurses := true, plainKeys := false, leaving := true, apart := false }
def FnExactMitreCentresSaid : Prop := fnExactMitreCentresRow.holds Try.pinned (OpenSpec.ofChange fnExactMitreCentresSpec)

/-- ITS FALSE NEIGHBOUR: 'it returns false'. Refute it at one input. -/
def fnExactMitreCentresWrong : ChangeSpec := { name := "fnExactMitreCentres", fn := fun _ => fun
  | [d] => { results := [.lit (.bool false)], args := [d] }
  | _ => none }
def FnExactMitreCentresWrongFalsely : Prop := fnExactMitreCentresRow.holds Try.pinned (OpenSpec.ofChange fnExactMitreCentresWrong)

/-- 'laws.FnExactPaschTrades': WHATEVER THE INPUT: true; the input reads as it did. -/
def fnExactPaschTradesSpec : ChangeSpec := { name := "fnExactPaschTrades", fn := fun _ => fun
  | [d] => { results := [.lit (.bool true)], args := [d] }
  | _ => none }
def fnExactPaschTradesRow : OpenClaim := { program := "ytkpnlecmfmbkaaa", sum := "a927a5d0fc6fe92a8264723e7d0e20fe1f7a7a3170a4cb4f6b6a614e073185d8", func := "loop.example/g01355/laws.FnExactPaschTrades", spec := "fnExactPaschTrades", unfollowed := true, recurses := true, plainKeys := false, leaving := true, apart := false }
def FnExactPaschTradesSaid : Prop := fnExactPaschTradesRow.holds Try.pinned (OpenSpec.ofChange fnExactPaschTradesSpec)

/-- ITS FALSE NEIGHBOUR: 'it returns false'. Refute it at one input. -/
def fnExactPaschTradesWrong : ChangeSpec := { name := "fnExactPaschTrades", fn := fun _ => fun
  | [d] => { results := [.lit (.bool false)], args := [d] }
  | _ => none }
def FnExactPaschTradesWrongFalsely : Prop := fnExactPaschTradesRow.holds Try.pinned (OpenSpec.ofChange fnExactPaschTradesWrong)

/-- 'laws.FnExactIsClosed': WHATEVER THE INPUT: true; the input reads as it did. -/
def fnExactIsClosedSpec : ChangeSpec := { name := "fnExactIsClosed", fn := fun _ => fun
  | [d1, d2] => { results := [.lit (.bool true)], args := [d1, d2] }
  | _ => none }
def fnExactIsClosedRow : OpenClaim := { program := "ytkpnlecmfmbkaaa", sum := "a927a5d0fc6fe92a8264723e7d0e20fe1f7a7a3170a4cb4f6b6a614e073185d8", func := "loop.example/g01355/laws.FnExactIsClosed", spec := "fnExactIsClosed", plainKeys := false, apart := false }
def FnExactIsClosedSaid : Prop := fnExactIsClosedRow.holds Try.pinned (OpenSpec.ofChange fnExactIsClosedSpec)

/-- ITS FALSE NEIGHBOUR: 'it returns false'. Refute it at one input. -/
def fnExactIsClosedWrong : ChangeSpec := { name := "fnExactIsClosed", fn := fun _ => fun
  | [d1, d2] => { results := [.lit (.bool false)], args := [d1, d2] }
  | _ => none }
def FnExactIsClosedWrongFalsely : Prop := fnExactIsClosedRow.holds Try.pinned (OpenSpec.ofChange fnExactIsClosedWrong)

/-- 'laws.FnExactSpanOf': WHATEVER THE INPUT: true; the input reads as it did. -/
def fnExactSpanOfSpec : ChangeSpec := { name := "fnExactSpanOf", fn := fun _ => fun
  | [d1, d2] => { results := [.lit (.bool true)], args := [d1, d2] }
  | _ => none }
def fnExactSpanOfRow : OpenClaim := { program := "ytkpnlecmfmbkaaa", sum := "a927a5d0fc6fe92a8264723e7d0e20fe1f7a7a3170a4cb4f6b6a614e073185d8", func := "loop.example/g01355/laws.FnExactSpanOf", spec := "fnExactSpanOf", plainKeys := false, apart := false }
def FnExactSpanOfSaid : Prop := fnExactSpanOfRow.holds Try.pinned (OpenSpec.ofChange fnExactSpanOfSpec)

/-- ITS FALSE NEIGHBOUR: 'it returns false'. Refute it at one input. -/
def fnExactSpanOfWrong : ChangeSpec := { name := "fnExactSpanOf", fn := fun _ => fun
  | [d1, d2] => { results := [.lit (.bool false)], args := [d1, d2] }
  | _ => none }
def FnExactSpanOfWrongFalsely : Prop := fnExactSpanOfRow.holds Try.pinned (OpenSpec.ofChange fnExactSpanOfWrong)

/-- 'laws.FnExactSubsystems': WHATEVER THE INPUT: true; the input reads as it did. -/
def fnExactSubsystemsSpec : ChangeSpec := { name := "fnExactSubsystems", fn := fun _ => fun
  | [d] => { results := [.lit (.bool true)], args := [d] }
  | _ => none }
def fnExactSubsystemsRow : OpenClaim := { program := "ytkpnlecmfmbkaaa", sum := "a927a5d0fc6fe92a8264723e7d0e20fe1f7a7a3170a4cb4f6b6a614e073185d8", func := "loop.example/g01355/laws.FnExactSubsystems", spec := "fnExactSubsystems", inPlace := ["(*sync.WaitGroup).Add", "internal/race.ReleaseMerge", "internal/race.Disable", "internal/race.Enable", "internal/synctest.IsInBubble", "internal/synctest.Associate[sync.WaitGroup]", "sync.fatal", "sync/atomic.OrUint64", "sync/atomic.AddUint64", "internal/race.Read", "sync/atomic.LoadUint64", "sync/atomic.StoreUint64", "internal/synctest.Disassociate[sync.WaitGroup]", "sync.runtime_Semrelease", "(*sync.WaitGroup).Done", "(*sync.WaitGroup).Wait", "internal/race.Acquire", "internal/synctest.IsAssociated[sync.WaitGroup]", "sync/atomic.CompareAndSwapUint64", "internal/race.Write", "sync.runtime_SemacquireWaitGroup"], unfollowed := true, recurses := true, plainKeys := false, leaving := true, apart := false }
def FnExactSubsystemsSaid : Prop := fnExactSubsystemsRow.holds Try.pinned (OpenSpec.ofChange fnExactSubsystemsSpec)

/-- ITS FALSE NEIGHBOUR: 'it returns false'. Refute it at one input. -/
def fnExactSubsystemsWrong : ChangeSpec := { name := "fnExactSubsystems", fn := fun _ => fun
  | [d] => { results := [.lit (.bool false)], args := [d] }
  | _ => none }
def FnExactSubsystemsWrongFalsely : Prop := fnExactSubsystemsRow.holds Try.pinned (OpenSpec.ofChange fnExactSubsystemsWrong)

/-- 'laws.FnExactIsIndependent': WHATEVER THE INPUT: true; the input reads as it did. -/
def fnExactIsIndependentSpec : ChangeSpec := { name := "fnExactIsIndependent", fn := fun _ => fun
  | [d1, d2] => { results := [.lit (.bool true)], args := [d1, d2] }
  | _ => none }
def fnExactIsIndependentRow : OpenClaim := { program := "ytkpnlecmfmbkaaa", sum := "a927a5d0fc6fe92a8264723e7d0e20fe1f7a7a3170a4cb4f6b6a614e073185d8", func := "loop.example/g01355/laws.FnExactIsIndependent", spec := "fnExactIsIndependent", plainKeys := false, apart := false }
def FnExactIsIndependentSaid : Prop := fnExactIsIndependentRow.holds Try.pinned (OpenSpec.ofChange fnExactIsIndependentSpec)

/-- ITS FALSE NEIGHBOUR: 'it returns false'. Refute it at one input. -/
def fnExactIsIndependentWrong : ChangeSpec := { name := "fnExactIsIndependent", fn := fun _ => fun
  | [d1, d2] => { results := [.lit (.bool false)], args := [d1, d2] }
  | _ => none }
def FnExactIsIndependentWrongFalsely : Prop := fnExactIsIndependentRow.holds Try.pinned (OpenSpec.ofChange fnExactIsIndependentWrong)

/-- 'laws.FnExactMostIndependent': WHATEVER THE INPUT: true; the input reads as it did. -/
def fnExactMostIndependentSpec : ChangeSpec := { name := "fnExactMostIndependent", fn := fun _ => fun
  | [d] => { results := [.lit (.bool true)], args := [d] }
  | _ => none }
def fnExactMostIndependentRow : OpenClaim := { program := "ytkpnlecmfmbkaaa", sum := "a927a5d0fc6fe92a8264723e7d0e20fe1f7a7a3170a4cb4f6b6a614e073185d8", func := "loop.example/g01355/laws.FnExactMostIndependent", spec := "fnExactMostIndependent", inPlace := ["(*sync.WaitGroup).Add", "internal/race.ReleaseMerge", "internal/race.Disable", "internal/race.Enable", "internal/synctest.IsInBubble", "internal/synctest.Associate[sync.WaitGroup]", "sync.fatal", "sync/atomic.OrUint64", "sync/atomic.AddUint64", "internal/race.Read", "sync/atomic.LoadUint64", "sync/atomic.StoreUint64", "internal/synctest.Disassociate[sync.WaitGroup]", "sync.runtime_Semrelease", "(*sync.WaitGroup).Done", "(*sync.WaitGroup).Wait", "internal/race.Acquire", "internal/synctest.IsAssociated[sync.WaitGroup]", "sync/atomic.CompareAndSwapUint64", "internal/race.Write", "sync.runtime_SemacquireWaitGroup"], unfollowed := true, recurses := true, plainKeys := false, leaving := true, apart := false }
def FnExactMostIndependentSaid : Prop := fnExactMostIndependentRow.holds Try.pinned (OpenSpec.ofChange fnExactMostIndependentSpec)

/-- ITS FALSE NEIGHBOUR: 'it returns false'. Refute it at one input. -/
def fnExactMostIndependentWrong : ChangeSpec := { name := "fnExactMostIndependent", fn := fun _ => fun
  | [d] => { results := [.lit (.bool false)], args := [d] }
  | _ => none }
def FnExactMostIndependentWrongFalsely : Prop := fnExactMostIndependentRow.holds Try.pinned (OpenSpec.ofChange fnExactMostIndependentWrong)

/-- 'laws.FnExactCountIndependent': WHATEVER THE INPUT: true; the input reads as it did. -/
def fnExactCountIndependentSpec : ChangeSpec := { name := "fnExactCountIndependent", fn := fun _ => fun
  | [d1, d2] => { results := [.lit (.bool true)], args := [d1, d2] }
  | _ => none }
def fnExactCountIndependentRow : OpenClaim := { program := "ytkpnlecmfmbkaaa", sum := "a927a5d0fc6fe92a8264723e7d0e20fe1f7a7a3170a4cb4f6b6a614e073185d8", func := "loop.example/g01355/laws.FnExactCountIndependent", spec := "fnExactCountIndependent", unfollowed := true, recurses := true, plainKeys := false, leaving := true, apart := false }
def FnExactCountIndependentSaid : Prop := fnExactCountIndependentRow.holds Try.pinned (OpenSpec.ofChange fnExactCountIndependentSpec)

/-- ITS FALSE NEIGHBOUR: 'it returns false'. Refute it at one input. -/
def fnExactCountIndependentWrong : ChangeSpec := { name := "fnExactCountIndependent", fn := fun _ => fun
  | [d1, d2] => { results := [.lit (.bool false)], args := [d1, d2] }
  | _ => none }
def FnExactCountIndependentWrongFalsely : Prop := fnExactCountIndependentRow.holds Try.pinned (OpenSpec.ofChange fnExactCountIndependentWrong)

/-- 'laws.FnExactLeastMeeting': WHATEVER THE INPUT: true; the input reads as it did. -/
def fnExactLeastMeetingSpec : ChangeSpec := { name := "fnExactLeastMeeting", fn := fun _ => fun
  | [d] => { results := [.lit (.bool true)], args := [d] }
  | _ => none }
def fnExactLeastMeetingRow : OpenClaim := { program := "ytkpnlecmfmbkaaa", sum := "a927a5d0fc6fe92a8264723e7d0e20fe1f7a7a3170a4cb4f6b6a614e073185d8", func := "loop.example/g01355/laws.FnExactLeastMeeting", spec := "fnExactLeastMeeting", inPlace := ["(*sync.WaitGroup).Add", "internal/race.ReleaseMerge", "internal/race.Disable", "internal/race.Enable", "internal/synctest.IsInBubble", "internal/synctest.Associate[sync.WaitGroup]", "sync.fatal", "sync/atomic.OrUint64", "sync/atomic.AddUint64", "internal/race.Read", "sync/atomic.LoadUint64", "sync/atomic.StoreUint64", "internal/synctest.Disassociate[sync.WaitGroup]", "sync.runtime_Semrelease", "(*sync.WaitGroup).Done", "(*sync.WaitGroup).Wait", "internal/race.Acquire", "internal/synctest.IsAssociated[sync.WaitGroup]", "sync/atomic.CompareAndSwapUint64", "internal/race.Write", "sync.runtime_SemacquireWaitGroup"], unfollowed := true, recurses := true, plainKeys := false, leaving := true, apart := false }
def FnExactLeastMeetingSaid : Prop := fnExactLeastMeetingRow.holds Try.pinned (OpenSpec.ofChange fnExactLeastMeetingSpec)

/-- ITS FALSE NEIGHBOUR: 'it returns false'. Refute it at one input. -/
def fnExactLeastMeetingWrong : ChangeSpec := { name := "fnExactLeastMeeting", fn := fun _ => fun
  | [d] => { results := [.lit (.bool false)], args := [d] }
  | _ => none }
def FnExactLeastMeetingWrongFalsely : Prop := fnExactLeastMeetingRow.holds Try.pinned (OpenSpec.ofChange fnExactLeastMeetingWrong)

/-- 'laws.FnExactIsColouring': WHATEVER THE INPUT: true; the input reads as it did. -/
def fnExactIsColouringSpec : ChangeSpec := { name := "fnExactIsColouring", fn := fun _ => fun
  | [d1, d2, d3] => { results := [.lit (.bool true)], args := [d1, d2, d3] }
  | _ => none }
def fnExactIsColouringRow : OpenClaim := { program := "ytkpnlecmfmbkaaa", sum := "a927a5d0fc6fe92a8264723e7d0e20fe1f7a7a3170a4cb4f6b6a614e073185d8", func := "loop.example/g01355/laws.FnExactIsColouring", spec := "fnExactIsColouring", unfollowed := true, recurses := true, plainKeys := false, leaving := true, apart := false }
def FnExactIsColouringSaid : Prop := fnExactIsColouringRow.holds Try.pinned (OpenSpec.ofChange fnExactIsColouringSpec)

/-- ITS FALSE NEIGHBOUR: 'it returns false'. Refute it at one input. -/
def fnExactIsColouringWrong : ChangeSpec := { name := "fnExactIsColouring", fn := fun _ => fun
  | [d1, d2, d3] => { results := [.lit (.bool false)], args := [d1, d2, d3] }
  | _ => none }
def FnExactIsColouringWrongFalsely : Prop := fnExactIsColouringRow.holds Try.pinned (OpenSpec.ofChange fnExactIsColouringWrong)

/-- 'laws.FnExactIsStrict': WHATEVER THE INPUT: true; the input reads as it did. -/
def fnExactIsStrictSpec : ChangeSpec := { name := "fnExactIsStrict", fn := fun _ => fun
  | [d1, d2, d3] => { results := [.lit (.bool true)], args := [d1, d2, d3] }
  | _ => none }
def fnExactIsStrictRow : OpenClaim := { program := "ytkpnlecmfmbkaaa", sum := "a927a5d0fc6fe92a8264723e7d0e20fe1f7a7a3170a4cb4f6b6a614e073185d8", func := "loop.example/g01355/laws.FnExactIsStrict", spec := "fnExactIsStrict", unfollowed := true, recurses := true, plainKeys := false, leaving := true, apart := false }
def FnExactIsStrictSaid : Prop := fnExactIsStrictRow.holds Try.pinned (OpenSpec.ofChange fnExactIsStrictSpec)

/-- ITS FALSE NEIGHBOUR: 'it returns false'. Refute it at one input. -/
def fnExactIsStrictWrong : ChangeSpec := { name := "fnExactIsStrict", fn := fun _ => fun
  | [d1, d2, d3] => { results := [.lit (.bool false)], args := [d1, d2, d3] }
  | _ => none }
def FnExactIsStrictWrongFalsely : Prop := fnExactIsStrictRow.holds Try.pinned (OpenSpec.ofChange fnExactIsStrictWrong)

/-- 'laws.FnExactFirstColouring': WHATEVER THE INPUT: true; the input reads as it did. -/
def fnExactFirstColouringSpec : ChangeSpec := { name := "fnExactFirstColouring", fn := fun _ => fun
  | [d1, d2] => { results := [.lit (.bool true)], args := [d1, d2] }
  | _ => none }
def fnExactFirstColouringRow : OpenClaim := { program := "ytkpnlecmfmbkaaa", sum := "a927a5d0fc6fe92a8264723e7d0e20fe1f7a7a3170a4cb4f6b6a614e073185d8", func := "loop.example/g01355/laws.FnExactFirstColouring", spec := "fnExactFirstColouring", unfollowed := true, recurses := true, plainKeys := false, leaving := true, apart := false }
def FnExactFirstColouringSaid : Prop := fnExactFirstColouringRow.holds Try.pinned (OpenSpec.ofChange fnExactFirstColouringSpec)

/-- ITS FALSE NEIGHBOUR: 'it returns false'. Refute it at one input. -/
def fnExactFirstColouringWrong : ChangeSpec := { name := "fnExactFirstColouring", fn := fun _ => fun
  | [d1, d2] => { results := [.lit (.bool false)], args := [d1, d2] }
  | _ => none }
def FnExactFirstColouringWrongFalsely : Prop := fnExactFirstColouringRow.holds Try.pinned (OpenSpec.ofChange fnExactFirstColouringWrong)

/-- 'laws.FnExactFirstStrict': WHATEVER THE INPUT: true; the input reads as it did. -/
def fnExactFirstStrictSpec : ChangeSpec := { name := "fnExactFirstStrict", fn := fun _ => fun
  | [d1, d2] => { results := [.lit (.bool true)], args := [d1, d2] }
  | _ => none }
def fnExactFirstStrictRow : OpenClaim := { program := "ytkpnlecmfmbkaaa", sum := "a927a5d0fc6fe92a8264723e7d0e20fe1f7a7a3170a4cb4f6b6a614e073185d8", func := "loop.example/g01355/laws.FnExactFirstStrict", spec := "fnExactFirstStrict", unfollowed := true, recurses := true, plainKeys := false, leaving := true, apart := false }
def FnExactFirstStrictSaid : Prop := fnExactFirstStrictRow.holds Try.pinned (OpenSpec.ofChange fnExactFirstStrictSpec)

/-- ITS FALSE NEIGHBOUR: 'it returns false'. Refute it at one input. -/
def fnExactFirstStrictWrong : ChangeSpec := { name := "fnExactFirstStrict", fn := fun _ => fun
  | [d1, d2] => { results := [.lit (.bool false)], args := [d1, d2] }
  | _ => none }
def FnExactFirstStrictWrongFalsely : Prop := fnExactFirstStrictRow.holds Try.pinned (OpenSpec.ofChange fnExactFirstStrictWrong)

/-- 'laws.FnExactColourNumber': WHATEVER THE INPUT: true; the input reads as it did. -/
def fnExactColourNumberSpec : ChangeSpec := { name := "fnExactColourNumber", fn := fun _ => fun
  | [d] => { results := [.lit (.bool true)], args := [d] }
  | _ => none }
def fnExactColourNumberRow : OpenClaim := { program := "ytkpnlecmfmbkaaa", sum := "a927a5d0fc6fe92a8264723e7d0e20fe1f7a7a3170a4cb4f6b6a614e073185d8", func := "loop.example/g01355/laws.FnExactColourNumber", spec := "fnExactColourNumber", unfollowed := true, recurses := true, plainKeys := false, leaving := true, apart := false }
def FnExactColourNumberSaid : Prop := fnExactColourNumberRow.holds Try.pinned (OpenSpec.ofChange fnExactColourNumberSpec)

/-- ITS FALSE NEIGHBOUR: 'it returns false'. Refute it at one input. -/
def fnExactColourNumberWrong : ChangeSpec := { name := "fnExactColourNumber", fn := fun _ => fun
  | [d] => { results := [.lit (.bool false)], args := [d] }
  | _ => none }
def FnExactColourNumberWrongFalsely : Prop := fnExactColourNumberRow.holds Try.pinned (OpenSpec.ofChange fnExactColourNumberWrong)

/-- 'laws.FnExactCountColourings': WHATEVER THE INPUT: true; the input reads as it did. -/
def fnExactCountColouringsSpec : ChangeSpec := { name := "fnExactCountColourings", fn := fun _ => fun
  | [d1, d2] => { results := [.lit (.bool true)], args := [d1, d2] }
  | _ => none }
def fnExactCountColouringsRow : OpenClaim := { program := "ytkpnlecmfmbkaaa", sum := "a927a5d0fc6fe92a8264723e7d0e20fe1f7a7a3170a4cb4f6b6a614e073185d8", func := "loop.example/g01355/laws.FnExactCountColourings", spec := "fnExactCountColourings", unfollowed := true, recurses := true, plainKeys := false, leaving := true, apart := false }
def FnExactCountColouringsSaid : Prop := fnExactCountColouringsRow.holds Try.pinned (OpenSpec.ofChange fnExactCountColouringsSpec)

/-- ITS FALSE NEIGHBOUR: 'it returns false'. Refute it at one input. -/
def fnExactCountColouringsWrong : ChangeSpec := { name := "fnExactCountColourings", fn := fun _ => fun
  | [d1, d2] => { results := [.lit (.bool false)], args := [d1, d2] }
  | _ => none }
def FnExactCountColouringsWrongFalsely : Prop := fnExactCountColouringsRow.holds Try.pinned (OpenSpec.ofChange fnExactCountColouringsWrong)

/- THE SECOND FORM. 'bulk': how many values and letters a reading holds, each counted each time it is reached (what is shared counts as often as it is met; a slice's spare places count too). A statement '..UptoSaid' is the law's where the arguments, and the package variables that the reading takes, are together of bulk at most 1048576: NARROWER than '..Said'. Prove '..Said' where nothing that the law and all that it calls make is longer than what came in: it says more and counts as full. Else prove '..UptoSaid'. A law counts once. -/
mutual
def uptoBulk {H : Type} : DataW H → Nat
  | .lit (.string bytes) => bytes.length + 1
  | .lit _ => 1
  | .nil => 1
  | .ptr d => uptoBulk d + 1
  | .slice elems spare => uptoBulkAll elems + uptoBulkAll spare + 1
  | .agg parts => uptoBulkAll parts + 1
  | .iface _ d => uptoBulk d + 1
  | .map entries => uptoBulkEntries entries + 1
  | .held _ => 1
def uptoBulkAll {H : Type} : List (DataW H) → Nat
  | [] => 0
  | d :: r => uptoBulk d + uptoBulkAll r
def uptoBulkEntries {H : Type} : List (Lit × DataW H) → Nat
  | [] => 0
  | x :: r => uptoBulkEntry x + uptoBulkEntries r
def uptoBulkEntry {H : Type} : Lit × DataW H → Nat
  | (.string bytes, d) => bytes.length + uptoBulk d + 1
  | (_, d) => uptoBulk d + 1
 end
def uptoSmall : (H : Type) → List (DataW H) → Bool := fun _ ds => decide (uptoBulkAll ds ≤ 1048576)
def OpenSpec.upto (s : _root_.Go.ChangeSpec) : _root_.Go.OpenSpec := { _root_.Go.OpenSpec.ofChange s with cond := some uptoSmall }

/-- 'laws.FnExactTypesOf', WHERE WHAT IT READS IS OF BULK AT MOST 1048576: true; the input reads as it did. -/
def fnExactTypesOfUptoRow : OpenClaim := { program := "ytkpnlecmfmbkaaa", sum := "a927a5d0fc6fe92a8264723e7d0e20fe1f7a7a3170a4cb4f6b6a614e073185d8", func := "loop.example/g01355/laws.FnExactTypesOf", spec := "fnExactTypesOf", unfollowed := true, recurses := true, plainKeys := false, leaving := true, apart := false, narrowed := true }
def FnExactTypesOfUptoSaid : Prop := fnExactTypesOfUptoRow.holds Try.pinned (OpenSpec.upto fnExactTypesOfSpec)

/-- 'laws.FnExactPaschList', WHERE WHAT IT READS IS OF BULK AT MOST 1048576: true; the input reads as it did. -/
def fnExactPaschListUptoRow : OpenClaim := { program := "ytkpnlecmfmbkaaa", sum := "a927a5d0fc6fe92a8264723e7d0e20fe1f7a7a3170a4cb4f6b6a614e073185d8", func := "loop.example/g01355/laws.FnExactPaschList", spec := "fnExactPaschList", recurses := true, plainKeys := false, apart := false, narrowed := true }
def FnExactPaschListUptoSaid : Prop := fnExactPaschListUptoRow.holds Try.pinned (OpenSpec.upto fnExactPaschListSpec)

/-- 'laws.FnExactCountPasch', WHERE WHAT IT READS IS OF BULK AT MOST 1048576: true; the input reads as it did. -/
def fnExactCountPaschUptoRow : OpenClaim := { program := "ytkpnlecmfmbkaaa", sum := "a927a5d0fc6fe92a8264723e7d0e20fe1f7a7a3170a4cb4f6b6a614e073185d8", func := "loop.example/g01355/laws.FnExactCountPasch", spec := "fnExactCountPasch", recurses := true, plainKeys := false, apart := false, narrowed := true }
def FnExactCountPaschUptoSaid : Prop := fnExactCountPaschUptoRow.holds Try.pinned (OpenSpec.upto fnExactCountPaschSpec)

/-- 'laws.FnExactPaschAtPoints', WHERE WHAT IT READS IS OF BULK AT MOST 1048576: true; the input reads as it did. -/
def fnExactPaschAtPointsUptoRow : OpenClaim := { program := "ytkpnlecmfmbkaaa", sum := "a927a5d0fc6fe92a8264723e7d0e20fe1f7a7a3170a4cb4f6b6a614e073185d8", func := "loop.example/g01355/laws.FnExactPaschAtPoints", spec := "fnExactPaschAtPoints", recurses := true, plainKeys := false, apart := false, narrowed := true }
def FnExactPaschAtPointsUptoSaid : Prop := fnExactPaschAtPointsUptoRow.holds Try.pinned (OpenSpec.upto fnExactPaschAtPointsSpec)

/-- 'laws.FnExactMitreList', WHERE WHAT IT READS IS OF BULK AT MOST 1048576: true; the input reads as it did. -/
def fnExactMitreListUptoRow : OpenClaim := { program := "ytkpnlecmfmbkaaa", sum := "a927a5d0fc6fe92a8264723e7d0e20fe1f7a7a3170a4cb4f6b6a614e073185d8", func := "loop.example/g01355/laws.FnExactMitreList", spec := "fnExactMitreList", unfollowed := true, recurses := true, plainKeys := false, leaving := true, apart := false, narrowed := true }
def FnExactMitreListUptoSaid : Prop := fnExactMitreListUptoRow.holds Try.pinned (OpenSpec.upto fnExactMitreListSpec)

/-- 'laws.FnExactCountMitres', WHERE WHAT IT READS IS OF BULK AT MOST 1048576: true; the input reads as it did. -/
def fnExactCountMitresUptoRow : OpenClaim := { program := "ytkpnlecmfmbkaaa", sum := "a927a5d0fc6fe92a8264723e7d0e20fe1f7a7a3170a4cb4f6b6a614e073185d8", func := "loop.example/g01355/laws.FnExactCountMitres", spec := "fnExactCountMitres", unfollowed := true, recurses := true, plainKeys := false, leaving := true, apart := false, narrowed := true }
def FnExactCountMitresUptoSaid : Prop := fnExactCountMitresUptoRow.holds Try.pinned (OpenSpec.upto fnExactCountMitresSpec)

/-- 'laws.FnExactMitreCentres', WHERE WHAT IT READS IS OF BULK AT MOST 1048576: true; the input reads as it did. -/
def fnExactMitreCentresUptoRow : OpenClaim := { program := "ytkpnlecmfmbkaaa", sum := "a927a5d0fc6fe92a8264723e7d0e20fe1f7a7a3170a4cb4f6b6a614e073185d8", func := "loop.example/g01355/laws.FnExactMitreCentres", spec := "fnExactMitreCentres", unfollowed := true, recurses := true, plainKeys := false, leaving := true, apart := false, narrowed := true }
def FnExactMitreCentresUptoSaid : Prop := fnExactMitreCentresUptoRow.holds Try.pinned (OpenSpec.upto fnExactMitreCentresSpec)

/-- 'laws.FnExactPaschTrades', WHERE WHAT IT READS IS OF BULK AT MOST 1048576: true; the input reads as it did. -/
def fnExactPaschTradesUptoRow : OpenClaim := { program := "ytkpnlecmfmbkaaa", sum := "a927a5d0fc6fe92a8264723e7d0e20fe1f7a7a3170a4cb4f6b6a614e073185d8", func := "loop.example/g01355/laws.FnExactPaschTrades", spec := "fnExactPaschTrades", unfollowed := true, recurses := true, plainKeys := false, leaving := true, apart := false, narrowed := true }
def FnExactPaschTradesUptoSaid : Prop := fnExactPaschTradesUptoRow.holds Try.pinned (OpenSpec.upto fnExactPaschTradesSpec)

/-- 'laws.FnExactIsClosed', WHERE WHAT IT READS IS OF BULK AT MOST 1048576: true; the input reads as it did. -/
def fnExactIsClosedUptoRow : OpenClaim := { program := "ytkpnlecmfmbkaaa", sum := "a927a5d0fc6fe92a8264723e7d0e20fe1f7a7a3170a4cb4f6b6a614e073185d8", func := "loop.example/g01355/laws.FnExactIsClosed", spec := "fnExactIsClosed", plainKeys := false, apart := false, narrowed := true }
def FnExactIsClosedUptoSaid : Prop := fnExactIsClosedUptoRow.holds Try.pinned (OpenSpec.upto fnExactIsClosedSpec)

/-- 'laws.FnExactSpanOf', WHERE WHAT IT READS IS OF BULK AT MOST 1048576: true; the input reads as it did. -/
def fnExactSpanOfUptoRow : OpenClaim := { program := "ytkpnlecmfmbkaaa", sum := "a927a5d0fc6fe92a8264723e7d0e20fe1f7a7a3170a4cb4f6b6a614e073185d8", func := "loop.example/g01355/laws.FnExactSpanOf", spec := "fnExactSpanOf", plainKeys := false, apart := false, narrowed := true }
def FnExactSpanOfUptoSaid : Prop := fnExactSpanOfUptoRow.holds Try.pinned (OpenSpec.upto fnExactSpanOfSpec)

/-- 'laws.FnExactSubsystems', WHERE WHAT IT READS IS OF BULK AT MOST 1048576: true; the input reads as it did. -/
def fnExactSubsystemsUptoRow : OpenClaim := { program := "ytkpnlecmfmbkaaa", sum := "a927a5d0fc6fe92a8264723e7d0e20fe1f7a7a3170a4cb4f6b6a614e073185d8", func := "loop.example/g01355/laws.FnExactSubsystems", spec := "fnExactSubsystems", inPlace := ["(*sync.WaitGroup).Add", "internal/race.ReleaseMerge", "internal/race.Disable", "internal/race.Enable", "internal/synctest.IsInBubble", "internal/synctest.Associate[sync.WaitGroup]", "sync.fatal", "sync/atomic.OrUint64", "sync/atomic.AddUint64", "internal/race.Read", "sync/atomic.LoadUint64", "sync/atomic.StoreUint64", "internal/synctest.Disassociate[sync.WaitGroup]", "sync.runtime_Semrelease", "(*sync.WaitGroup).Done", "(*sync.WaitGroup).Wait", "internal/race.Acquire", "internal/synctest.IsAssociated[sync.WaitGroup]", "sync/atomic.CompareAndSwapUint64", "internal/race.Write", "sync.runtime_SemacquireWaitGroup"], unfollowed := true, recurses := true, plainKeys := false, leaving := true, apart := false, narrowed := true }
def FnExactSubsystemsUptoSaid : Prop := fnExactSubsystemsUptoRow.holds Try.pinned (OpenSpec.upto fnExactSubsystemsSpec)

/-- 'laws.FnExactIsIndependent', WHERE WHAT IT READS IS OF BULK AT MOST 1048576: true; the input reads as it did. -/
def fnExactIsIndependentUptoRow : OpenClaim := { program := "ytkpnlecmfmbkaaa", sum := "a927a5d0fc6fe92a8264723e7d0e20fe1f7a7a3170a4cb4f6b6a614e073185d8", func := "loop.example/g01355/laws.FnExactIsIndependent", spec := "fnExactIsIndependent", plainKeys := false, apart := false, narrowed := true }
def FnExactIsIndependentUptoSaid : Prop := fnExactIsIndependentUptoRow.holds Try.pinned (OpenSpec.upto fnExactIsIndependentSpec)

/-- 'laws.FnExactMostIndependent', WHERE WHAT IT READS IS OF BULK AT MOST 1048576: true; the input reads as it did. -/
def fnExactMostIndependentUptoRow : OpenClaim := { program := "ytkpnlecmfmbkaaa", sum := "a927a5d0fc6fe92a8264723e7d0e20fe1f7a7a3170a4cb4f6b6a614e073185d8", func := "loop.example/g01355/laws.FnExactMostIndependent", spec := "fnExactMostIndependent", inPlace := ["(*sync.WaitGroup).Add", "internal/race.ReleaseMerge", "internal/race.Disable", "internal/race.Enable", "internal/synctest.IsInBubble", "internal/synctest.Associate[sync.WaitGroup]", "sync.fatal", "sync/atomic.OrUint64", "sync/atomic.AddUint64", "internal/race.Read", "sync/atomic.LoadUint64", "sync/atomic.StoreUint64", "internal/synctest.Disassociate[sync.WaitGroup]", "sync.runtime_Semrelease", "(*sync.WaitGroup).Done", "(*sync.WaitGroup).Wait", "internal/race.Acquire", "internal/synctest.IsAssociated[sync.WaitGroup]", "sync/atomic.CompareAndSwapUint64", "internal/race.Write", "sync.runtime_SemacquireWaitGroup"], unfollowed := true, recurses := true, plainKeys := false, leaving := true, apart := false, narrowed := true }
def FnExactMostIndependentUptoSaid : Prop := fnExactMostIndependentUptoRow.holds Try.pinned (OpenSpec.upto fnExactMostIndependentSpec)

/-- 'laws.FnExactCountIndependent', WHERE WHAT IT READS IS OF BULK AT MOST 1048576: true; the input reads as it did. -/
def fnExactCountIndependentUptoRow : OpenClaim := { program := "ytkpnlecmfmbkaaa", sum := "a927a5d0fc6fe92a8264723e7d0e20fe1f7a7a3170a4cb4f6b6a614e073185d8", func := "loop.example/g01355/laws.FnExactCountIndependent", spec := "fnExactCountIndependent", unfollowed := true, recurses := true, plainKeys := false, leaving := true, apart := false, narrowed := true }
def FnExactCountIndependentUptoSaid : Prop := fnExactCountIndependentUptoRow.holds Try.pinned (OpenSpec.upto fnExactCountIndependentSpec)

/-- 'laws.FnExactLeastMeeting', WHERE WHAT IT READS IS OF BULK AT MOST 1048576: true; the input reads as it did. -/
def fnExactLeastMeetingUptoRow : OpenClaim := { program := "ytkpnlecmfmbkaaa", sum := "a927a5d0fc6fe92a8264723e7d0e20fe1f7a7a3170a4cb4f6b6a614e073185d8", func := "loop.example/g01355/laws.FnExactLeastMeeting", spec := "fnExactLeastMeeting", inPlace := ["(*sync.WaitGroup).Add", "internal/race.ReleaseMerge", "internal/race.Disable", "internal/race.Enable", "internal/synctest.IsInBubble", "internal/synctest.Associate[sync.WaitGroup]", "sync.fatal", "sync/atomic.OrUint64", "sync/atomic.AddUint64", "internal/race.Read", "sync/atomic.LoadUint64", "sync/atomic.StoreUint64", "internal/synctest.Disassociate[sync.WaitGroup]", "sync.runtime_Semrelease", "(*sync.WaitGroup).Done", "(*sync.WaitGroup).Wait", "internal/race.Acquire", "internal/synctest.IsAssociated[sync.WaitGroup]", "sync/atomic.CompareAndSwapUint64", "internal/race.Write", "sync.runtime_SemacquireWaitGroup"], unfollowed := true, recurses := true, plainKeys := false, leaving := true, apart := false, narrowed := true }
def FnExactLeastMeetingUptoSaid : Prop := fnExactLeastMeetingUptoRow.holds Try.pinned (OpenSpec.upto fnExactLeastMeetingSpec)

/-- 'laws.FnExactIsColouring', WHERE WHAT IT READS IS OF BULK AT MOST 1048576: true; the input reads as it did. -/
def fnExactIsColouringUptoRow : OpenClaim := { program := "ytkpnlecmfmbkaaa", sum := "a927a5d0fc6fe92a8264723e7d0e20fe1f7a7a3170a4cb4f6b6a614e073185d8", func := "loop.example/g01355/laws.FnExactIsColouring", spec := "fnExactIsColouring", unfollowed := true, recurses := true, plainKeys := false, leaving := true, apart := false, narrowed := true }
def FnExactIsColouringUptoSaid : Prop := fnExactIsColouringUptoRow.holds Try.pinned (OpenSpec.upto fnExactIsColouringSpec)

/-- 'laws.FnExactIsStrict', WHERE WHAT IT READS IS OF BULK AT MOST 1048576: true; the input reads as it did. -/
def fnExactIsStrictUptoRow : OpenClaim := { program := "ytkpnlecmfmbkaaa", sum := "a927a5d0fc6fe92a8264723e7d0e20fe1f7a7a3170a4cb4f6b6a614e073185d8", func := "loop.example/g01355/laws.FnExactIsStrict", spec := "fnExactIsStrict", unfollowed := true, recurses := true, plainKeys := false, leaving := true, apart := false, narrowed := true }
def FnExactIsStrictUptoSaid : Prop := fnExactIsStrictUptoRow.holds Try.pinned (OpenSpec.upto fnExactIsStrictSpec)

/-- 'laws.FnExactFirstColouring', WHERE WHAT IT READS IS OF BULK AT MOST 1048576: true; the input reads as it did. -/
def fnExactFirstColouringUptoRow : OpenClaim := { program := "ytkpnlecmfmbkaaa", sum := "a927a5d0fc6fe92a8264723e7d0e20fe1f7a7a3170a4cb4f6b6a614e073185d8", func := "loop.example/g01355/laws.FnExactFirstColouring", spec := "fnExactFirstColouring", unfollowed := true, recurses := true, plainKeys := false, leaving := true, apart := false, narrowed := true }
def FnExactFirstColouringUptoSaid : Prop := fnExactFirstColouringUptoRow.holds Try.pinned (OpenSpec.upto fnExactFirstColouringSpec)

/-- 'laws.FnExactFirstStrict', WHERE WHAT IT READS IS OF BULK AT MOST 1048576: true; the input reads as it did. -/
def fnExactFirstStrictUptoRow : OpenClaim := { program := "ytkpnlecmfmbkaaa", sum := "a927a5d0fc6fe92a8264723e7d0e20fe1f7a7a3170a4cb4f6b6a614e073185d8", func := "loop.example/g01355/laws.FnExactFirstStrict", spec := "fnExactFirstStrict", unfollowed := true, recurses := true, plainKeys := false, leaving := true, apart := false, narrowed := true }
def FnExactFirstStrictUptoSaid : Prop := fnExactFirstStrictUptoRow.holds Try.pinned (OpenSpec.upto fnExactFirstStrictSpec)

/-- 'laws.FnExactColourNumber', WHERE WHAT IT READS IS OF BULK AT MOST 1048576: true; the input reads as it did. -/
def fnExactColourNumberUptoRow : OpenClaim := { program := "ytkpnlecmfmbkaaa", sum := "a927a5d0fc6fe92a8264723e7d0e20fe1f7a7a3170a4cb4f6b6a614e073185d8", func := "loop.example/g01355/laws.FnExactColourNumber", spec := "fnExactColourNumber", unfollowed := true, recurses := true, plainKeys := false, leaving := true, apart := false, narrowed := true }
def FnExactColourNumberUptoSaid : Prop := fnExactColourNumberUptoRow.holds Try.pinned (OpenSpec.upto fnExactColourNumberSpec)

/-- 'laws.FnExactCountColourings', WHERE WHAT IT READS IS OF BULK AT MOST 1048576: true; the input reads as it did. -/
def fnExactCountColouringsUptoRow : OpenClaim := { program := "ytkpnlecmfmbkaaa", sum := "a927a5d0fc6fe92a8264723e7d0e20fe1f7a7a3170a4cb4f6b6a614e073185d8", func := "loop.example/g01355/laws.FnExactCountColourings", spec := "fnExactCountColourings", unfollowed := true, recurses := true, plainKeys := false, leaving := true, apart := false, narrowed := true }
def FnExactCountColouringsUptoSaid : Prop := fnExactCountColouringsUptoRow.holds Try.pinned (OpenSpec.upto fnExactCountColouringsSpec)

end Rows
end Go.Proofs.Ytkpnlecmfmbkaaa

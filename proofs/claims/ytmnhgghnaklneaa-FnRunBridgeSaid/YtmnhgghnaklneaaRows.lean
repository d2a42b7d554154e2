/-
  No cell of these rows narrows 'for every input' (looked for: loops, veiled, ifaces, maps, wideKeys, modest, calm, conditions, laid).
  DERIVED. THE GIVEN ROWS OF THIS SEAT. 13 by the template 'for every input the law returns true; each argument reads behind the call as it read before'; 0 by the template 'total and deterministic' (their statements: YtmnhgghnaklneaaTotals.lean).
  GIVEN WITH THE SEED: the statements are not yours to turn. If you find one false, say at which input.
  Laid BY PROGRAM, IN A SANDBOX (cutbox-rows.mjs): the forced cells as the released guide's own fill.sh prints them over the translation 0c75be95b246a08f… (all of the seat's roots in one cut). By AI agents, Wed Nov 11 2026. No macro, syntax, notation, axiom, sorry.
-/
import Derived.Test.YtmnhgghnaklneaaChecked
import GoSem.Claim
import GoSem.ClaimJoined
import GoSem.ClaimMapViews
import Derived.JoinedTies
import Derived.KernelRfl
namespace Go.Proofs.Ytmnhgghnaklneaa
/- THE CELL 'sum', in the pinned program and in every row, IS THE sha256 OF THE DUMP (.gsa) THAT YtmnhgghnaklneaaProg.lean LOADS. Nothing in Lean hashes anything: it is a label: what it is worth is what the hold of that sum in a sandbox is worth. -/
noncomputable def Try.pinned : Pinned := { name := "ytmnhgghnaklneaa", sum := "0c75be95b246a08f9080a6830a4d384c7a70d56a5e6ce5a011ca9f812ec4167b", checked := Try.checked }
namespace Rows
def none {H : Type} : Left H := { results := [], args := [] }

/-- 'laws.FnLearn': WHATEVER THE INPUT: true; the input reads as it did. -/
def fnLearnSpec : ChangeSpec := { name := "fnLearn", fn := fun _ => fun
  | [d] => { results := [.lit (.bool true)], args := [d] }
  | _ => none }
def fnLearnRow : OpenClaim := { program := "ytmnhgghnaklneaa", sum := "0c75be95b246a08f9080a6830a4d384c7a70d56a5e6ce5a011ca9f812ec4167b", func := "loop.example/wholenet/laws.FnLearn", spec := "fnLearn", apart := false }
def FnLearnSaid : Prop := fnLearnRow.holds Try.pinned (OpenSpec.ofChange fnLearnSpec)

/-- ITS FALSE NEIGHBOUR: 'it returns false'. Refute it at one input. -/
def fnLearnWrong : ChangeSpec := { name := "fnLearn", fn := fun _ => fun
  | [d] => { results := [.lit (.bool false)], args := [d] }
  | _ => none }
def FnLearnWrongFalsely : Prop := fnLearnRow.holds Try.pinned (OpenSpec.ofChange fnLearnWrong)

/-- 'laws.FnNotBack': WHATEVER THE INPUT: true; the input reads as it did. -/
def fnNotBackSpec : ChangeSpec := { name := "fnNotBack", fn := fun _ => fun
  | [d] => { results := [.lit (.bool true)], args := [d] }
  | _ => none }
def fnNotBackRow : OpenClaim := { program := "ytmnhgghnaklneaa", sum := "0c75be95b246a08f9080a6830a4d384c7a70d56a5e6ce5a011ca9f812ec4167b", func := "loop.example/wholenet/laws.FnNotBack", spec := "fnNotBack", unfollowed := true, recurses := true, apart := false }
def FnNotBackSaid : Prop := fnNotBackRow.holds Try.pinned (OpenSpec.ofChange fnNotBackSpec)

/-- ITS FALSE NEIGHBOUR: 'it returns false'. Refute it at one input. -/
def fnNotBackWrong : ChangeSpec := { name := "fnNotBack", fn := fun _ => fun
  | [d] => { results := [.lit (.bool false)], args := [d] }
  | _ => none }
def FnNotBackWrongFalsely : Prop := fnNotBackRow.holds Try.pinned (OpenSpec.ofChange fnNotBackWrong)

/-- 'laws.FnBridgeStep': WHATEVER THE INPUT: true; the input reads as it did. -/
def fnBridgeStepSpec : ChangeSpec := { name := "fnBridgeStep", fn := fun _ => fun
  | [d] => { results := [.lit (.bool true)], args := [d] }
  | _ => none }
def fnBridgeStepRow : OpenClaim := { program := "ytmnhgghnaklneaa", sum := "0c75be95b246a08f9080a6830a4d384c7a70d56a5e6ce5a011ca9f812ec4167b", func := "loop.example/wholenet/laws.FnBridgeStep", spec := "fnBridgeStep", unfollowed := true, recurses := true, apart := false }
def FnBridgeStepSaid : Prop := fnBridgeStepRow.holds Try.pinned (OpenSpec.ofChange fnBridgeStepSpec)

/-- ITS FALSE NEIGHBOUR: 'it returns false'. Refute it at one input. -/
def fnBridgeStepWrong : ChangeSpec := { name := "fnBridgeStep", fn := fun _ => fun
  | [d] => { results := [.lit (.bool false)], args := [d] }
  | _ => none }
def FnBridgeStepWrongFalsely : Prop := fnBridgeStepRow.holds Try.pinned (OpenSpec.ofChange fnBridgeStepWrong)

/-- 'laws.FnRunBridge': WHATEVER THE INPUT: true; the input reads as it did. -/
def fnRunBridgeSpec : ChangeSpec := { name := "fnRunBridge", fn := fun _ => fun
  | [d] => { results := [.lit (.bool true)], args := [d] }
  | _ => none }
def fnRunBridgeRow : OpenClaim := { program := "ytmnhgghnaklneaa", sum := "0c75be95b246a08f9080a6830a4d384c7a70d56a5e6ce5a011ca9f812ec4167b", func := "loop.example/wholenet/laws.FnRunBridge", spec := "fnRunBridge", unfollowed := true, recurses := true, apart := false }
def FnRunBridgeSaid : Prop := fnRunBridgeRow.holds Try.pinned (OpenSpec.ofChange fnRunBridgeSpec)

/-- ITS FALSE NEIGHBOUR: 'it returns false'. Refute it at one input. -/
def fnRunBridgeWrong : ChangeSpec := { name := "fnRunBridge", fn := fun _ => fun
  | [d] => { results := [.lit (.bool false)], args := [d] }
  | _ => none }
def FnRunBridgeWrongFalsely : Prop := fnRunBridgeRow.holds Try.pinned (OpenSpec.ofChange fnRunBridgeWrong)

/-- 'laws.FnLastSeen': WHATEVER THE INPUT: true; the input reads as it did. -/
def fnLastSeenSpec : ChangeSpec := { name := "fnLastSeen", fn := fun _ => fun
  | [d] => { results := [.lit (.bool true)], args := [d] }
  | _ => none }
def fnLastSeenRow : OpenClaim := { program := "ytmnhgghnaklneaa", sum := "0c75be95b246a08f9080a6830a4d384c7a70d56a5e6ce5a011ca9f812ec4167b", func := "loop.example/wholenet/laws.FnLastSeen", spec := "fnLastSeen", unfollowed := true, recurses := true, apart := false }
def FnLastSeenSaid : Prop := fnLastSeenRow.holds Try.pinned (OpenSpec.ofChange fnLastSeenSpec)

/-- ITS FALSE NEIGHBOUR: 'it returns false'. Refute it at one input. -/
def fnLastSeenWrong : ChangeSpec := { name := "fnLastSeen", fn := fun _ => fun
  | [d] => { results := [.lit (.bool false)], args := [d] }
  | _ => none }
def FnLastSeenWrongFalsely : Prop := fnLastSeenRow.holds Try.pinned (OpenSpec.ofChange fnLastSeenWrong)

/-- 'laws.FnKnown': WHATEVER THE INPUT: true; the input reads as it did. -/
def fnKnownSpec : ChangeSpec := { name := "fnKnown", fn := fun _ => fun
  | [d1, d2] => { results := [.lit (.bool true)], args := [d1, d2] }
  | _ => none }
def fnKnownRow : OpenClaim := { program := "ytmnhgghnaklneaa", sum := "0c75be95b246a08f9080a6830a4d384c7a70d56a5e6ce5a011ca9f812ec4167b", func := "loop.example/wholenet/laws.FnKnown", spec := "fnKnown", unfollowed := true, recurses := true, apart := false }
def FnKnownSaid : Prop := fnKnownRow.holds Try.pinned (OpenSpec.ofChange fnKnownSpec)

/-- ITS FALSE NEIGHBOUR: 'it returns false'. Refute it at one input. -/
def fnKnownWrong : ChangeSpec := { name := "fnKnown", fn := fun _ => fun
  | [d1, d2] => { results := [.lit (.bool false)], args := [d1, d2] }
  | _ => none }
def FnKnownWrongFalsely : Prop := fnKnownRow.holds Try.pinned (OpenSpec.ofChange fnKnownWrong)

/-- 'laws.FnExactFreshTable': WHATEVER THE INPUT: true; the input reads as it did. -/
def fnExactFreshTableSpec : ChangeSpec := { name := "fnExactFreshTable", fn := fun _ => fun
  | [] => { results := [.lit (.bool true)], args := [] }
  | _ => none }
def fnExactFreshTableRow : OpenClaim := { program := "ytmnhgghnaklneaa", sum := "0c75be95b246a08f9080a6830a4d384c7a70d56a5e6ce5a011ca9f812ec4167b", func := "loop.example/wholenet/laws.FnExactFreshTable", spec := "fnExactFreshTable", apart := false }
def FnExactFreshTableSaid : Prop := fnExactFreshTableRow.holds Try.pinned (OpenSpec.ofChange fnExactFreshTableSpec)

/-- ITS FALSE NEIGHBOUR: 'it returns false'. Refute it at one input. -/
def fnExactFreshTableWrong : ChangeSpec := { name := "fnExactFreshTable", fn := fun _ => fun
  | [] => { results := [.lit (.bool false)], args := [] }
  | _ => none }
def FnExactFreshTableWrongFalsely : Prop := fnExactFreshTableRow.holds Try.pinned (OpenSpec.ofChange fnExactFreshTableWrong)

/-- 'laws.FnExactTableValid': WHATEVER THE INPUT: true; the input reads as it did. -/
def fnExactTableValidSpec : ChangeSpec := { name := "fnExactTableValid", fn := fun _ => fun
  | [d1, d2] => { results := [.lit (.bool true)], args := [d1, d2] }
  | _ => none }
def fnExactTableValidRow : OpenClaim := { program := "ytmnhgghnaklneaa", sum := "0c75be95b246a08f9080a6830a4d384c7a70d56a5e6ce5a011ca9f812ec4167b", func := "loop.example/wholenet/laws.FnExactTableValid", spec := "fnExactTableValid", apart := false }
def FnExactTableValidSaid : Prop := fnExactTableValidRow.holds Try.pinned (OpenSpec.ofChange fnExactTableValidSpec)

/-- ITS FALSE NEIGHBOUR: 'it returns false'. Refute it at one input. -/
def fnExactTableValidWrong : ChangeSpec := { name := "fnExactTableValid", fn := fun _ => fun
  | [d1, d2] => { results := [.lit (.bool false)], args := [d1, d2] }
  | _ => none }
def FnExactTableValidWrongFalsely : Prop := fnExactTableValidRow.holds Try.pinned (OpenSpec.ofChange fnExactTableValidWrong)

/-- 'laws.FnExactLearnPort': WHATEVER THE INPUT: true; the input reads as it did. -/
def fnExactLearnPortSpec : ChangeSpec := { name := "fnExactLearnPort", fn := fun _ => fun
  | [d1, d2, d3, d4] => { results := [.lit (.bool true)], args := [d1, d2, d3, d4] }
  | _ => none }
def fnExactLearnPortRow : OpenClaim := { program := "ytmnhgghnaklneaa", sum := "0c75be95b246a08f9080a6830a4d384c7a70d56a5e6ce5a011ca9f812ec4167b", func := "loop.example/wholenet/laws.FnExactLearnPort", spec := "fnExactLearnPort", apart := false }
def FnExactLearnPortSaid : Prop := fnExactLearnPortRow.holds Try.pinned (OpenSpec.ofChange fnExactLearnPortSpec)

/-- ITS FALSE NEIGHBOUR: 'it returns false'. Refute it at one input. -/
def fnExactLearnPortWrong : ChangeSpec := { name := "fnExactLearnPort", fn := fun _ => fun
  | [d1, d2, d3, d4] => { results := [.lit (.bool false)], args := [d1, d2, d3, d4] }
  | _ => none }
def FnExactLearnPortWrongFalsely : Prop := fnExactLearnPortRow.holds Try.pinned (OpenSpec.ofChange fnExactLearnPortWrong)

/-- 'laws.FnExactPortsFor': WHATEVER THE INPUT: true; the input reads as it did. -/
def fnExactPortsForSpec : ChangeSpec := { name := "fnExactPortsFor", fn := fun _ => fun
  | [d1, d2, d3, d4] => { results := [.lit (.bool true)], args := [d1, d2, d3, d4] }
  | _ => none }
def fnExactPortsForRow : OpenClaim := { program := "ytmnhgghnaklneaa", sum := "0c75be95b246a08f9080a6830a4d384c7a70d56a5e6ce5a011ca9f812ec4167b", func := "loop.example/wholenet/laws.FnExactPortsFor", spec := "fnExactPortsFor", unfollowed := true, recurses := true, apart := false }
def FnExactPortsForSaid : Prop := fnExactPortsForRow.holds Try.pinned (OpenSpec.ofChange fnExactPortsForSpec)

/-- ITS FALSE NEIGHBOUR: 'it returns false'. Refute it at one input. -/
def fnExactPortsForWrong : ChangeSpec := { name := "fnExactPortsFor", fn := fun _ => fun
  | [d1, d2, d3, d4] => { results := [.lit (.bool false)], args := [d1, d2, d3, d4] }
  | _ => none }
def FnExactPortsForWrongFalsely : Prop := fnExactPortsForRow.holds Try.pinned (OpenSpec.ofChange fnExactPortsForWrong)

/-- 'laws.FnExactBridgeStep': WHATEVER THE INPUT: true; the input reads as it did. -/
def fnExactBridgeStepSpec : ChangeSpec := { name := "fnExactBridgeStep", fn := fun _ => fun
  | [d1, d2, d3] => { results := [.lit (.bool true)], args := [d1, d2, d3] }
  | _ => none }
def fnExactBridgeStepRow : OpenClaim := { program := "ytmnhgghnaklneaa", sum := "0c75be95b246a08f9080a6830a4d384c7a70d56a5e6ce5a011ca9f812ec4167b", func := "loop.example/wholenet/laws.FnExactBridgeStep", spec := "fnExactBridgeStep", unfollowed := true, recurses := true, apart := false }
def FnExactBridgeStepSaid : Prop := fnExactBridgeStepRow.holds Try.pinned (OpenSpec.ofChange fnExactBridgeStepSpec)

/-- ITS FALSE NEIGHBOUR: 'it returns false'. Refute it at one input. -/
def fnExactBridgeStepWrong : ChangeSpec := { name := "fnExactBridgeStep", fn := fun _ => fun
  | [d1, d2, d3] => { results := [.lit (.bool false)], args := [d1, d2, d3] }
  | _ => none }
def FnExactBridgeStepWrongFalsely : Prop := fnExactBridgeStepRow.holds Try.pinned (OpenSpec.ofChange fnExactBridgeStepWrong)

/-- 'laws.FnExactRunBridge': WHATEVER THE INPUT: true; the input reads as it did. -/
def fnExactRunBridgeSpec : ChangeSpec := { name := "fnExactRunBridge", fn := fun _ => fun
  | [d1, d2] => { results := [.lit (.bool true)], args := [d1, d2] }
  | _ => none }
def fnExactRunBridgeRow : OpenClaim := { program := "ytmnhgghnaklneaa", sum := "0c75be95b246a08f9080a6830a4d384c7a70d56a5e6ce5a011ca9f812ec4167b", func := "loop.example/wholenet/laws.FnExactRunBridge", spec := "fnExactRunBridge", unfollowed := true, recurses := true, apart := false }
def FnExactRunBridgeSaid : Prop := fnExactRunBridgeRow.holds Try.pinned (OpenSpec.ofChange fnExactRunBridgeSpec)

/-- ITS FALSE NEIGHBOUR: 'it returns false'. Refute it at one input. -/
def fnExactRunBridgeWrong : ChangeSpec := { name := "fnExactRunBridge", fn := fun _ => fun
  | [d1, d2] => { results := [.lit (.bool false)], args := [d1, d2] }
  | _ => none }
def FnExactRunBridgeWrongFalsely : Prop := fnExactRunBridgeRow.holds Try.pinned (OpenSpec.ofChange fnExactRunBridgeWrong)

/-- 'laws.FnExactKnownStations': WHATEVER THE INPUT: true; the input reads as it did. -/
def fnExactKnownStationsSpec : ChangeSpec := { name := "fnExactKnownStations", fn := fun _ => fun
  | [d1, d2] => { results := [.lit (.bool true)], args := [d1, d2] }
  | _ => none }
def fnExactKnownStationsRow : OpenClaim := { program := "ytmnhgghnaklneaa", sum := "0c75be95b246a08f9080a6830a4d384c7a70d56a5e6ce5a011ca9f812ec4167b", func := "loop.example/wholenet/laws.FnExactKnownStations", spec := "fnExactKnownStations", unfollowed := true, recurses := true, apart := false }
def FnExactKnownStationsSaid : Prop := fnExactKnownStationsRow.holds Try.pinned (OpenSpec.ofChange fnExactKnownStationsSpec)

/-- ITS FALSE NEIGHBOUR: 'it returns false'. Refute it at one input. -/
def fnExactKnownStationsWrong : ChangeSpec := { name := "fnExactKnownStations", fn := fun _ => fun
  | [d1, d2] => { results := [.lit (.bool false)], args := [d1, d2] }
  | _ => none }
def FnExactKnownStationsWrongFalsely : Prop := fnExactKnownStationsRow.holds Try.pinned (OpenSpec.ofChange fnExactKnownStationsWrong)

/- THE SECOND FORM. 'bulk': how many values and letters a reading holds, each counted each time it is reached (what is shared counts as often as it is met; a slice's spare places count too). A statement '..UptoSaid' is the law's where the arguments, and the package variables that the reading takes, are together of bulk at most 1048576: NARROWER than '..Said'. Prove '..Said' where nothing that the law and all that it calls make is longer than what came in: it says more and counts as full. Else prove '..UptoSaid'. A law counts once. -/
mutual
def uptoBulk {H : Type} : DataW H → Nat
  | .lit (.string bytes) => bytes.length + 1
  | .lit _ => 1
  | .nil => 1
  | .ptr d => uptoBulk d + 1
  | .slice elems spare => uptoBulkAll elems + uptoBulkAll spare + 1
  | .agg parts => uptoBulkAll parts + 1
  | .iface _ d => uptoBulk d + 1
  | .map entries => uptoBulkEntries entries + 1
  | .held _ => 1
def uptoBulkAll {H : Type} : List (DataW H) → Nat
  | [] => 0
  | d :: r => uptoBulk d + uptoBulkAll r
def uptoBulkEntries {H : Type} : List (Lit × DataW H) → Nat
  | [] => 0
  | x :: r => uptoBulkEntry x + uptoBulkEntries r
def uptoBulkEntry {H : Type} : Lit × DataW H → Nat
  | (.string bytes, d) => bytes.length + uptoBulk d + 1
  | (_, d) => uptoBulk d + 1
 end
def uptoSmall : (H : Type) → List (DataW H) → Bool := fun _ ds => decide (uptoBulkAll ds ≤ 1048576)
def OpenSpec.upto (s : _root_.Go.ChangeSpec) : _root_.Go.OpenSpec := { _root_.Go.OpenSpec.ofChange s with cond := some uptoSmall }

/-- 'laws.FnLearn', WHERE WHAT IT READS IS OF BULK AT MOST 1048576: true; the input reads as it did. -/
def fnLearnUptoRow : OpenClaim := { program := "ytmnhgghnaklneaa", sum := "0c75be95b246a08f9080a6830a4d384c7a70d56a5e6ce5a011ca9f812ec4167b", func := "loop.example/wholenet/laws.FnLearn", spec := "fnLearn", apart := false, narrowed := true }
def FnLearnUptoSaid : Prop := fnLearnUptoRow.holds Try.pinned (OpenSpec.upto fnLearnSpec)

/-- 'laws.FnNotBack', WHERE WHAT IT READS IS OF BULK AT MOST 1048576: true; the input reads as it did. -/
def fnNotBackUptoRow : OpenClaim := { program := "ytmnhgghnaklneaa", sum := "0c75be95b246a08f9080a6830a4d384c7a70d56a5e6ce5a011ca9f812ec4167b", func := "loop.example/wholenet/laws.FnNotBack", spec := "fnNotBack", unfollowed := true, recurses := true, apart := false, narrowed := true }
def FnNotBackUptoSaid : Prop := fnNotBackUptoRow.holds Try.pinned (OpenSpec.upto fnNotBackSpec)

/-- 'laws.FnBridgeStep', WHERE WHAT IT READS IS OF BULK AT MOST 1048576: true; the input reads as it did. -/
def fnBridgeStepUptoRow : OpenClaim := { program := "ytmnhgghnaklneaa", sum := "0c75be95b246a08f9080a6830a4d384c7a70d56a5e6ce5a011ca9f812ec4167b", func := "loop.example/wholenet/laws.FnBridgeStep", spec := "fnBridgeStep", unfollowed := true, recurses := true, apart := false, narrowed := true }
def FnBridgeStepUptoSaid : Prop := fnBridgeStepUptoRow.holds Try.pinned (OpenSpec.upto fnBridgeStepSpec)

/-- 'laws.FnRunBridge', WHERE WHAT IT READS IS OF BULK AT MOST 1048576: true; the input reads as it did. -/
def fnRunBridgeUptoRow : OpenClaim := { program := "ytmnhgghnaklneaa", sum := "0c75be95b246a08f9080a6830a4d384c7a70d56a5e6ce5a011ca9f812ec4167b", func := "loop.example/wholenet/laws.FnRunBridge", spec := "fnRunBridge", unfollowed := true, recurses := true, apart := false, narrowed := true }
def FnRunBridgeUptoSaid : Prop := fnRunBridgeUptoRow.holds Try.pinned (OpenSpec.upto fnRunBridgeSpec)

/-- 'laws.FnLastSeen', WHERE WHAT IT READS IS OF BULK AT MOST 1048576: true; the input reads as it did. -/
def fnLastSeenUptoRow : OpenClaim := { program := "ytmnhgghnaklneaa", sum := "0c75be95b246a08f9080a6830a4d384c7a70d56a5e6ce5a011ca9f812ec4167b", func := "loop.example/wholenet/laws.FnLastSeen", spec := "fnLastSeen", unfollowed := true, recurses := true, apart := false, narrowed := true }
def FnLastSeenUptoSaid : Prop := fnLastSeenUptoRow.holds Try.pinned (OpenSpec.upto fnLastSeenSpec)

/-- 'laws.FnKnown', WHERE WHAT IT READS IS OF BULK AT MOST 1048576: true; the input reads as it did. -/
def fnKnownUptoRow : OpenClaim := { program := "ytmnhgghnaklneaa", sum := "0c75be95b246a08f9080a6830a4d384c7a70d56a5e6ce5a011ca9f812ec4167b", func := "loop.example/wholenet/laws.FnKnown", spec := "fnKnown", unfollowed := true, recurses := true, apart := false, narrowed := true }
def FnKnownUptoSaid : Prop := fnKnownUptoRow.holds Try.pinned (OpenSpec.upto fnKnownSpec)

/-- 'laws.FnExactFreshTable', WHERE WHAT IT READS IS OF BULK AT MOST 1048576: true; the input reads as it did. -/
def fnExactFreshTableUptoRow : OpenClaim := { program := "ytmnhgghnaklneaa", sum := "0c75be95b246a08f9080a6830a4d384c7a70d56a5e6ce5a011ca9f812ec4167b", func := "loop.example/wholenet/laws.FnExactFreshTable", spec := "fnExactFreshTable", apart := false, narrowed := true }
def FnExactFreshTableUptoSaid : Prop := fnExactFreshTableUptoRow.holds Try.pinned (OpenSpec.upto fnExactFreshTableSpec)

/-- 'laws.FnExactTableValid', WHERE WHAT IT READS IS OF BULK AT MOST 1048576: true; the input reads as it did. -/
def fnExactTableValidUptoRow : OpenClaim := { program := "ytmnhgghnaklneaa", sum := "0c75be95b246a08f9080a6830a4d384c7a70d56a5e6ce5a011ca9f812ec4167b", func := "loop.example/wholenet/laws.FnExactTableValid", spec := "fnExactTableValid", apart := false, narrowed := true }
def FnExactTableValidUptoSaid : Prop := fnExactTableValidUptoRow.holds Try.pinned (OpenSpec.upto fnExactTableValidSpec)

/-- 'laws.FnExactLearnPort', WHERE WHAT IT READS IS OF BULK AT MOST 1048576: true; the input reads as it did. -/
def fnExactLearnPortUptoRow : OpenClaim := { program := "ytmnhgghnaklneaa", sum := "0c75be95b246a08f9080a6830a4d384c7a70d56a5e6ce5a011ca9f812ec4167b", func := "loop.example/wholenet/laws.FnExactLearnPort", spec := "fnExactLearnPort", apart := false, narrowed := true }
def FnExactLearnPortUptoSaid : Prop := fnExactLearnPortUptoRow.holds Try.pinned (OpenSpec.upto fnExactLearnPortSpec)

/-- 'laws.FnExactPortsFor', WHERE WHAT IT READS IS OF BULK AT MOST 1048576: true; the input reads as it did. -/
def fnExactPortsForUptoRow : OpenClaim := { program := "ytmnhgghnaklneaa", sum := "0c75be95b246a08f9080a6830a4d384c7a70d56a5e6ce5a011ca9f812ec4167b", func := "loop.example/wholenet/laws.FnExactPortsFor", spec := "fnExactPortsFor", unfollowed := true, recurses := true, apart := false, narrowed := true }
def FnExactPortsForUptoSaid : Prop := fnExactPortsForUptoRow.holds Try.pinned (OpenSpec.upto fnExactPortsForSpec)

/-- 'laws.FnExactBridgeStep', WHERE WHAT IT READS IS OF BULK AT MOST 1048576: true; the input reads as it did. -/
def fnExactBridgeStepUptoRow : OpenClaim := { program := "ytmnhgghnaklneaa", sum := "0c75be95b246a08f9080a6830a4d384c7a70d56a5e6ce5a011ca9f812ec4167b", func := "loop.example/wholenet/laws.FnExactBridgeStep", spec := "fnExactBridgeStep", unfollowed := true, recurses := true, apart := false, narrowed := true }
def FnExactBridgeStepUptoSaid : Prop := fnExactBridgeStepUptoRow.holds Try.pinned (OpenSpec.upto fnExactBridgeStepSpec)

/-- 'laws.FnExactRunBridge', WHERE WHAT IT READS IS OF BULK AT MOST 1048576: true; the input reads as it did. -/
def fnExactRunBridgeUptoRow : OpenClaim := { program := "ytmnhgghnaklneaa", sum := "0c75be95b246a08f9080a6830a4d384c7a70d56a5e6ce5a011ca9f812ec4167b", func := "loop.example/wholenet/laws.FnExactRunBridge", spec := "fnExactRunBridge", unfollowed := true, recurses := true, apart := false, narrowed := true }
def FnExactRunBridgeUptoSaid : Prop := fnExactRunBridgeUptoRow.holds Try.pinned (OpenSpec.upto fnExactRunBridgeSpec)

/-- 'laws.FnExactKnownStations', WHERE WHAT IT READS IS OF BULK AT MOST 1048576: true; the input reads as it did. -/
def fnExactKnownStationsUptoRow : OpenClaim := { program := "ytmnhgghnaklneaa", sum := "0c75be95b246a08f9080a6830a4d384c7a70d56a5e6ce5a011ca9f812ec4167b", func := "loop.example/wholenet/laws.FnExactKnownStations", spec := "fnExactKnownStations", unfollowed := true, recurses := true, apart := false, narrowed := true }
def FnExactKnownStationsUptoSaid : Prop := fnExactKnownStationsUptoRow.holds Try.pinned (OpenSpec.upto fnExactKnownStationsSpec)

end Rows
end Go.Proofs.Ytmnhgghnaklneaa

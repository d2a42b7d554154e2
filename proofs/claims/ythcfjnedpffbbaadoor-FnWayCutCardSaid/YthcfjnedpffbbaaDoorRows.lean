/-
  NARROWER THAN 'FOR EVERY INPUT', by the rows' own cells (each row's printed sentence says how): FnRoutes: laid · FnWire: laid · FnWayCut: laid · FnWaitPairs: laid · FnNoRound: laid · FnRouteNoRound: laid · FnAlone: laid · FnExactWayValid: laid · FnExactWireOf: laid · FnExactWaitsOf: laid · FnExactHasRound: laid · FnExactRunWorms: laid.
  DERIVED. THE GIVEN ROWS OF THIS SEAT. 12 by the template 'for every input the law returns true; each argument reads behind the call as it read before'; 0 by the template 'total and deterministic' (their statements: YthcfjnedpffbbaaDoorTotals.lean).
  GIVEN WITH THE SEED: the statements are not yours to turn. If you find one false, say at which input.
  Laid BY PROGRAM, IN A SANDBOX (cutbox-rows.mjs): the forced cells as the released guide's own fill.sh prints them over the translation 01569453fa72ecbd… (all of the seat's roots in one cut). By AI agents, Wed Nov 11 2026. No macro, syntax, notation, axiom, sorry.
-/
import Derived.Test.YthcfjnedpffbbaaDoorChecked
import GoSem.Claim
import GoSem.ClaimJoined
import GoSem.ClaimMapViews
import Derived.JoinedTies
import Derived.KernelRfl
namespace Go.Proofs.YthcfjnedpffbbaaDoor
/- THE CELL 'sum', in the pinned program and in every row, IS THE sha256 OF THE DUMP (.gsa) THAT YthcfjnedpffbbaaDoorProg.lean LOADS. Nothing in Lean hashes anything: it is a label: what it is worth is what the hold of that sum in a sandbox is worth. -/
noncomputable def Tryd.pinned : Pinned := { name := "ythcfjnedpffbbaadoor", sum := "01569453fa72ecbdad2d74027f8b83fb4b87f1d2d4a7f8c21cdfa61537b8f3d7", checked := Tryd.checked }
namespace Rows
def none {H : Type} : Left H := { results := [], args := [] }

/- WHAT THE LISTED PACKAGE-LEVEL VARIABLES READ AS WHEN THE CALL BEGINS. Each datum BY PROGRAM (the guide's laid-datum.mjs) off the statement by which the dump's own 'gosem.cut.vars' lays the variable. In a bare row this is a premise. The card (YthcfjnedpffbbaaDoorCards.lean) ties it to the program's text. -/
def laid_loop_example_wholenet_impl_wireSteps {H : Type} : DataW H := .agg [.agg [.lit (.int .i64 1), .lit (.int .i64 0)], .agg [.lit (.int .i64 (-1)), .lit (.int .i64 0)], .agg [.lit (.int .i64 0), .lit (.int .i64 1)], .agg [.lit (.int .i64 0), .lit (.int .i64 (-1))]]

/-- 'laws.FnRoutes': WHATEVER THE INPUT: true; the input reads as it did. -/
def fnRoutesSpec : ChangeSpec := { name := "fnRoutes", vars := ["loop.example/wholenet/impl.wireSteps"], fn := fun _ => fun
  | [d, g1] => { results := [.lit (.bool true)], args := [d], vars := [g1] }
  | _ => none }
def fnRoutesRow : OpenClaim := { program := "ythcfjnedpffbbaadoor", sum := "01569453fa72ecbdad2d74027f8b83fb4b87f1d2d4a7f8c21cdfa61537b8f3d7", func := "loop.example/wholenet/laws.FnRoutes", spec := "fnRoutes", named := ["loop.example/wholenet/impl.wireSteps"], apart := false, laid := [("loop.example/wholenet/impl.wireSteps", laid_loop_example_wholenet_impl_wireSteps)] }
def FnRoutesSaid : Prop := fnRoutesRow.holds Tryd.pinned (OpenSpec.ofChange fnRoutesSpec)

/-- ITS FALSE NEIGHBOUR: 'it returns false'. Refute it at one input. -/
def fnRoutesWrong : ChangeSpec := { name := "fnRoutes", vars := ["loop.example/wholenet/impl.wireSteps"], fn := fun _ => fun
  | [d, g1] => { results := [.lit (.bool false)], args := [d], vars := [g1] }
  | _ => none }
def FnRoutesWrongFalsely : Prop := fnRoutesRow.holds Tryd.pinned (OpenSpec.ofChange fnRoutesWrong)

/-- 'laws.FnWire': WHATEVER THE INPUT: true; the input reads as it did. -/
def fnWireSpec : ChangeSpec := { name := "fnWire", vars := ["loop.example/wholenet/impl.wireSteps"], fn := fun _ => fun
  | [d, g1] => { results := [.lit (.bool true)], args := [d], vars := [g1] }
  | _ => none }
def fnWireRow : OpenClaim := { program := "ythcfjnedpffbbaadoor", sum := "01569453fa72ecbdad2d74027f8b83fb4b87f1d2d4a7f8c21cdfa61537b8f3d7", func := "loop.example/wholenet/laws.FnWire", spec := "fnWire", named := ["loop.example/wholenet/impl.wireSteps"], apart := false, laid := [("loop.example/wholenet/impl.wireSteps", laid_loop_example_wholenet_impl_wireSteps)] }
def FnWireSaid : Prop := fnWireRow.holds Tryd.pinned (OpenSpec.ofChange fnWireSpec)

/-- ITS FALSE NEIGHBOUR: 'it returns false'. Refute it at one input. -/
def fnWireWrong : ChangeSpec := { name := "fnWire", vars := ["loop.example/wholenet/impl.wireSteps"], fn := fun _ => fun
  | [d, g1] => { results := [.lit (.bool false)], args := [d], vars := [g1] }
  | _ => none }
def FnWireWrongFalsely : Prop := fnWireRow.holds Tryd.pinned (OpenSpec.ofChange fnWireWrong)

/-- 'laws.FnWayCut': WHATEVER THE INPUT: true; the input reads as it did. -/
def fnWayCutSpec : ChangeSpec := { name := "fnWayCut", vars := ["loop.example/wholenet/impl.wireSteps"], fn := fun _ => fun
  | [d, g1] => { results := [.lit (.bool true)], args := [d], vars := [g1] }
  | _ => none }
def fnWayCutRow : OpenClaim := { program := "ythcfjnedpffbbaadoor", sum := "01569453fa72ecbdad2d74027f8b83fb4b87f1d2d4a7f8c21cdfa61537b8f3d7", func := "loop.example/wholenet/laws.FnWayCut", spec := "fnWayCut", named := ["loop.example/wholenet/impl.wireSteps"], apart := false, laid := [("loop.example/wholenet/impl.wireSteps", laid_loop_example_wholenet_impl_wireSteps)] }
def FnWayCutSaid : Prop := fnWayCutRow.holds Tryd.pinned (OpenSpec.ofChange fnWayCutSpec)

/-- ITS FALSE NEIGHBOUR: 'it returns false'. Refute it at one input. -/
def fnWayCutWrong : ChangeSpec := { name := "fnWayCut", vars := ["loop.example/wholenet/impl.wireSteps"], fn := fun _ => fun
  | [d, g1] => { results := [.lit (.bool false)], args := [d], vars := [g1] }
  | _ => none }
def FnWayCutWrongFalsely : Prop := fnWayCutRow.holds Tryd.pinned (OpenSpec.ofChange fnWayCutWrong)

/-- 'laws.FnWaitPairs': WHATEVER THE INPUT: true; the input reads as it did. -/
def fnWaitPairsSpec : ChangeSpec := { name := "fnWaitPairs", vars := ["loop.example/wholenet/impl.wireSteps"], fn := fun _ => fun
  | [d, g1] => { results := [.lit (.bool true)], args := [d], vars := [g1] }
  | _ => none }
def fnWaitPairsRow : OpenClaim := { program := "ythcfjnedpffbbaadoor", sum := "01569453fa72ecbdad2d74027f8b83fb4b87f1d2d4a7f8c21cdfa61537b8f3d7", func := "loop.example/wholenet/laws.FnWaitPairs", spec := "fnWaitPairs", named := ["loop.example/wholenet/impl.wireSteps"], apart := false, laid := [("loop.example/wholenet/impl.wireSteps", laid_loop_example_wholenet_impl_wireSteps)] }
def FnWaitPairsSaid : Prop := fnWaitPairsRow.holds Tryd.pinned (OpenSpec.ofChange fnWaitPairsSpec)

/-- ITS FALSE NEIGHBOUR: 'it returns false'. Refute it at one input. -/
def fnWaitPairsWrong : ChangeSpec := { name := "fnWaitPairs", vars := ["loop.example/wholenet/impl.wireSteps"], fn := fun _ => fun
  | [d, g1] => { results := [.lit (.bool false)], args := [d], vars := [g1] }
  | _ => none }
def FnWaitPairsWrongFalsely : Prop := fnWaitPairsRow.holds Tryd.pinned (OpenSpec.ofChange fnWaitPairsWrong)

/-- 'laws.FnNoRound': WHATEVER THE INPUT: true; the input reads as it did. -/
def fnNoRoundSpec : ChangeSpec := { name := "fnNoRound", vars := ["loop.example/wholenet/impl.wireSteps"], fn := fun _ => fun
  | [d, g1] => { results := [.lit (.bool true)], args := [d], vars := [g1] }
  | _ => none }
def fnNoRoundRow : OpenClaim := { program := "ythcfjnedpffbbaadoor", sum := "01569453fa72ecbdad2d74027f8b83fb4b87f1d2d4a7f8c21cdfa61537b8f3d7", func := "loop.example/wholenet/laws.FnNoRound", spec := "fnNoRound", recurses := true, named := ["loop.example/wholenet/impl.wireSteps"], apart := false, laid := [("loop.example/wholenet/impl.wireSteps", laid_loop_example_wholenet_impl_wireSteps)] }
def FnNoRoundSaid : Prop := fnNoRoundRow.holds Tryd.pinned (OpenSpec.ofChange fnNoRoundSpec)

/-- ITS FALSE NEIGHBOUR: 'it returns false'. Refute it at one input. -/
def fnNoRoundWrong : ChangeSpec := { name := "fnNoRound", vars := ["loop.example/wholenet/impl.wireSteps"], fn := fun _ => fun
  | [d, g1] => { results := [.lit (.bool false)], args := [d], vars := [g1] }
  | _ => none }
def FnNoRoundWrongFalsely : Prop := fnNoRoundRow.holds Tryd.pinned (OpenSpec.ofChange fnNoRoundWrong)

/-- 'laws.FnRouteNoRound': WHATEVER THE INPUT: true; the input reads as it did. -/
def fnRouteNoRoundSpec : ChangeSpec := { name := "fnRouteNoRound", vars := ["loop.example/wholenet/impl.wireSteps"], fn := fun _ => fun
  | [d, g1] => { results := [.lit (.bool true)], args := [d], vars := [g1] }
  | _ => none }
def fnRouteNoRoundRow : OpenClaim := { program := "ythcfjnedpffbbaadoor", sum := "01569453fa72ecbdad2d74027f8b83fb4b87f1d2d4a7f8c21cdfa61537b8f3d7", func := "loop.example/wholenet/laws.FnRouteNoRound", spec := "fnRouteNoRound", recurses := true, named := ["loop.example/wholenet/impl.wireSteps"], apart := false, laid := [("loop.example/wholenet/impl.wireSteps", laid_loop_example_wholenet_impl_wireSteps)] }
def FnRouteNoRoundSaid : Prop := fnRouteNoRoundRow.holds Tryd.pinned (OpenSpec.ofChange fnRouteNoRoundSpec)

/-- ITS FALSE NEIGHBOUR: 'it returns false'. Refute it at one input. -/
def fnRouteNoRoundWrong : ChangeSpec := { name := "fnRouteNoRound", vars := ["loop.example/wholenet/impl.wireSteps"], fn := fun _ => fun
  | [d, g1] => { results := [.lit (.bool false)], args := [d], vars := [g1] }
  | _ => none }
def FnRouteNoRoundWrongFalsely : Prop := fnRouteNoRoundRow.holds Tryd.pinned (OpenSpec.ofChange fnRouteNoRoundWrong)

/-- 'laws.FnAlone': WHATEVER THE INPUT: true; the input reads as it did. -/
def fnAloneSpec : ChangeSpec := { name := "fnAlone", vars := ["loop.example/wholenet/impl.wireSteps"], fn := fun _ => fun
  | [d, g1] => { results := [.lit (.bool true)], args := [d], vars := [g1] }
  | _ => none }
def fnAloneRow : OpenClaim := { program := "ythcfjnedpffbbaadoor", sum := "01569453fa72ecbdad2d74027f8b83fb4b87f1d2d4a7f8c21cdfa61537b8f3d7", func := "loop.example/wholenet/laws.FnAlone", spec := "fnAlone", named := ["loop.example/wholenet/impl.wireSteps"], apart := false, laid := [("loop.example/wholenet/impl.wireSteps", laid_loop_example_wholenet_impl_wireSteps)] }
def FnAloneSaid : Prop := fnAloneRow.holds Tryd.pinned (OpenSpec.ofChange fnAloneSpec)

/-- ITS FALSE NEIGHBOUR: 'it returns false'. Refute it at one input. -/
def fnAloneWrong : ChangeSpec := { name := "fnAlone", vars := ["loop.example/wholenet/impl.wireSteps"], fn := fun _ => fun
  | [d, g1] => { results := [.lit (.bool false)], args := [d], vars := [g1] }
  | _ => none }
def FnAloneWrongFalsely : Prop := fnAloneRow.holds Tryd.pinned (OpenSpec.ofChange fnAloneWrong)

/-- 'laws.FnExactWayValid': WHATEVER THE INPUT: true; the input reads as it did. -/
def fnExactWayValidSpec : ChangeSpec := { name := "fnExactWayValid", vars := ["loop.example/wholenet/impl.wireSteps"], fn := fun _ => fun
  | [d1, d2, d3, g1] => { results := [.lit (.bool true)], args := [d1, d2, d3], vars := [g1] }
  | _ => none }
def fnExactWayValidRow : OpenClaim := { program := "ythcfjnedpffbbaadoor", sum := "01569453fa72ecbdad2d74027f8b83fb4b87f1d2d4a7f8c21cdfa61537b8f3d7", func := "loop.example/wholenet/laws.FnExactWayValid", spec := "fnExactWayValid", named := ["loop.example/wholenet/impl.wireSteps"], apart := false, laid := [("loop.example/wholenet/impl.wireSteps", laid_loop_example_wholenet_impl_wireSteps)] }
def FnExactWayValidSaid : Prop := fnExactWayValidRow.holds Tryd.pinned (OpenSpec.ofChange fnExactWayValidSpec)

/-- ITS FALSE NEIGHBOUR: 'it returns false'. Refute it at one input. -/
def fnExactWayValidWrong : ChangeSpec := { name := "fnExactWayValid", vars := ["loop.example/wholenet/impl.wireSteps"], fn := fun _ => fun
  | [d1, d2, d3, g1] => { results := [.lit (.bool false)], args := [d1, d2, d3], vars := [g1] }
  | _ => none }
def FnExactWayValidWrongFalsely : Prop := fnExactWayValidRow.holds Tryd.pinned (OpenSpec.ofChange fnExactWayValidWrong)

/-- 'laws.FnExactWireOf': WHATEVER THE INPUT: true; the input reads as it did. -/
def fnExactWireOfSpec : ChangeSpec := { name := "fnExactWireOf", vars := ["loop.example/wholenet/impl.wireSteps"], fn := fun _ => fun
  | [d1, d2, d3, d4, g1] => { results := [.lit (.bool true)], args := [d1, d2, d3, d4], vars := [g1] }
  | _ => none }
def fnExactWireOfRow : OpenClaim := { program := "ythcfjnedpffbbaadoor", sum := "01569453fa72ecbdad2d74027f8b83fb4b87f1d2d4a7f8c21cdfa61537b8f3d7", func := "loop.example/wholenet/laws.FnExactWireOf", spec := "fnExactWireOf", named := ["loop.example/wholenet/impl.wireSteps"], apart := false, laid := [("loop.example/wholenet/impl.wireSteps", laid_loop_example_wholenet_impl_wireSteps)] }
def FnExactWireOfSaid : Prop := fnExactWireOfRow.holds Tryd.pinned (OpenSpec.ofChange fnExactWireOfSpec)

/-- ITS FALSE NEIGHBOUR: 'it returns false'. Refute it at one input. -/
def fnExactWireOfWrong : ChangeSpec := { name := "fnExactWireOf", vars := ["loop.example/wholenet/impl.wireSteps"], fn := fun _ => fun
  | [d1, d2, d3, d4, g1] => { results := [.lit (.bool false)], args := [d1, d2, d3, d4], vars := [g1] }
  | _ => none }
def FnExactWireOfWrongFalsely : Prop := fnExactWireOfRow.holds Tryd.pinned (OpenSpec.ofChange fnExactWireOfWrong)

/-- 'laws.FnExactWaitsOf': WHATEVER THE INPUT: true; the input reads as it did. -/
def fnExactWaitsOfSpec : ChangeSpec := { name := "fnExactWaitsOf", vars := ["loop.example/wholenet/impl.wireSteps"], fn := fun _ => fun
  | [d1, d2, d3, g1] => { results := [.lit (.bool true)], args := [d1, d2, d3], vars := [g1] }
  | _ => none }
def fnExactWaitsOfRow : OpenClaim := { program := "ythcfjnedpffbbaadoor", sum := "01569453fa72ecbdad2d74027f8b83fb4b87f1d2d4a7f8c21cdfa61537b8f3d7", func := "loop.example/wholenet/laws.FnExactWaitsOf", spec := "fnExactWaitsOf", named := ["loop.example/wholenet/impl.wireSteps"], apart := false, laid := [("loop.example/wholenet/impl.wireSteps", laid_loop_example_wholenet_impl_wireSteps)] }
def FnExactWaitsOfSaid : Prop := fnExactWaitsOfRow.holds Tryd.pinned (OpenSpec.ofChange fnExactWaitsOfSpec)

/-- ITS FALSE NEIGHBOUR: 'it returns false'. Refute it at one input. -/
def fnExactWaitsOfWrong : ChangeSpec := { name := "fnExactWaitsOf", vars := ["loop.example/wholenet/impl.wireSteps"], fn := fun _ => fun
  | [d1, d2, d3, g1] => { results := [.lit (.bool false)], args := [d1, d2, d3], vars := [g1] }
  | _ => none }
def FnExactWaitsOfWrongFalsely : Prop := fnExactWaitsOfRow.holds Tryd.pinned (OpenSpec.ofChange fnExactWaitsOfWrong)

/-- 'laws.FnExactHasRound': WHATEVER THE INPUT: true; the input reads as it did. -/
def fnExactHasRoundSpec : ChangeSpec := { name := "fnExactHasRound", vars := ["loop.example/wholenet/impl.wireSteps"], fn := fun _ => fun
  | [d1, d2, d3, g1] => { results := [.lit (.bool true)], args := [d1, d2, d3], vars := [g1] }
  | _ => none }
def fnExactHasRoundRow : OpenClaim := { program := "ythcfjnedpffbbaadoor", sum := "01569453fa72ecbdad2d74027f8b83fb4b87f1d2d4a7f8c21cdfa61537b8f3d7", func := "loop.example/wholenet/laws.FnExactHasRound", spec := "fnExactHasRound", recurses := true, named := ["loop.example/wholenet/impl.wireSteps"], apart := false, laid := [("loop.example/wholenet/impl.wireSteps", laid_loop_example_wholenet_impl_wireSteps)] }
def FnExactHasRoundSaid : Prop := fnExactHasRoundRow.holds Tryd.pinned (OpenSpec.ofChange fnExactHasRoundSpec)

/-- ITS FALSE NEIGHBOUR: 'it returns false'. Refute it at one input. -/
def fnExactHasRoundWrong : ChangeSpec := { name := "fnExactHasRound", vars := ["loop.example/wholenet/impl.wireSteps"], fn := fun _ => fun
  | [d1, d2, d3, g1] => { results := [.lit (.bool false)], args := [d1, d2, d3], vars := [g1] }
  | _ => none }
def FnExactHasRoundWrongFalsely : Prop := fnExactHasRoundRow.holds Tryd.pinned (OpenSpec.ofChange fnExactHasRoundWrong)

/-- 'laws.FnExactRunWorms': WHATEVER THE INPUT: true; the input reads as it did. -/
def fnExactRunWormsSpec : ChangeSpec := { name := "fnExactRunWorms", vars := ["loop.example/wholenet/impl.wireSteps"], fn := fun _ => fun
  | [d1, d2, d3, g1] => { results := [.lit (.bool true)], args := [d1, d2, d3], vars := [g1] }
  | _ => none }
def fnExactRunWormsRow : OpenClaim := { program := "ythcfjnedpffbbaadoor", sum := "01569453fa72ecbdad2d74027f8b83fb4b87f1d2d4a7f8c21cdfa61537b8f3d7", func := "loop.example/wholenet/laws.FnExactRunWorms", spec := "fnExactRunWorms", named := ["loop.example/wholenet/impl.wireSteps"], apart := false, laid := [("loop.example/wholenet/impl.wireSteps", laid_loop_example_wholenet_impl_wireSteps)] }
def FnExactRunWormsSaid : Prop := fnExactRunWormsRow.holds Tryd.pinned (OpenSpec.ofChange fnExactRunWormsSpec)

/-- ITS FALSE NEIGHBOUR: 'it returns false'. Refute it at one input. -/
def fnExactRunWormsWrong : ChangeSpec := { name := "fnExactRunWorms", vars := ["loop.example/wholenet/impl.wireSteps"], fn := fun _ => fun
  | [d1, d2, d3, g1] => { results := [.lit (.bool false)], args := [d1, d2, d3], vars := [g1] }
  | _ => none }
def FnExactRunWormsWrongFalsely : Prop := fnExactRunWormsRow.holds Tryd.pinned (OpenSpec.ofChange fnExactRunWormsWrong)

/- THE SECOND FORM. 'bulk': how many values and letters a reading holds, each counted each time it is reached (what is shared counts as often as it is met; a slice's spare places count too). A statement '..UptoSaid' is the law's where the arguments, and the package variables that the reading takes, are together of bulk at most 1048576: NARROWER than '..Said'. Prove '..Said' where nothing that the law and all that it calls make is longer than what came in: it says more and counts as full. Else prove '..UptoSaid'. A law counts once. -/
mutual
def uptoBulk {H : Type} : DataW H → Nat
  | .lit (.string bytes) => bytes.length + 1
  | .lit _ => 1
  | .nil => 1
  | .ptr d => uptoBulk d + 1
  | .slice elems spare => uptoBulkAll elems + uptoBulkAll spare + 1
  | .agg parts => uptoBulkAll parts + 1
  | .iface _ d => uptoBulk d + 1
  | .map entries => uptoBulkEntries entries + 1
  | .held _ => 1
def uptoBulkAll {H : Type} : List (DataW H) → Nat
  | [] => 0
  | d :: r => uptoBulk d + uptoBulkAll r
def uptoBulkEntries {H : Type} : List (Lit × DataW H) → Nat
  | [] => 0
  | x :: r => uptoBulkEntry x + uptoBulkEntries r
def uptoBulkEntry {H : Type} : Lit × DataW H → Nat
  | (.string bytes, d) => bytes.length + uptoBulk d + 1
  | (_, d) => uptoBulk d + 1
 end
def uptoSmall : (H : Type) → List (DataW H) → Bool := fun _ ds => decide (uptoBulkAll ds ≤ 1048576)
def OpenSpec.upto (s : _root_.Go.ChangeSpec) : _root_.Go.OpenSpec := { _root_.Go.OpenSpec.ofChange s with cond := some uptoSmall }

/-- 'laws.FnRoutes', WHERE WHAT IT READS IS OF BULK AT MOST 1048576: true; the input reads as it did. -/
def fnRoutesUptoRow : OpenClaim := { program := "ythcfjnedpffbbaadoor", sum := "01569453fa72ecbdad2d74027f8b83fb4b87f1d2d4a7f8c21cdfa61537b8f3d7", func := "loop.example/wholenet/laws.FnRoutes", spec := "fnRoutes", named := ["loop.example/wholenet/impl.wireSteps"], apart := false, laid := [("loop.example/wholenet/impl.wireSteps", laid_loop_example_wholenet_impl_wireSteps)], narrowed := true }
def FnRoutesUptoSaid : Prop := fnRoutesUptoRow.holds Tryd.pinned (OpenSpec.upto fnRoutesSpec)

/-- 'laws.FnWire', WHERE WHAT IT READS IS OF BULK AT MOST 1048576: true; the input reads as it did. -/
def fnWireUptoRow : OpenClaim := { program := "ythcfjnedpffbbaadoor", sum := "01569453fa72ecbdad2d74027f8b83fb4b87f1d2d4a7f8c21cdfa61537b8f3d7", func := "loop.example/wholenet/laws.FnWire", spec := "fnWire", named := ["loop.example/wholenet/impl.wireSteps"], apart := false, laid := [("loop.example/wholenet/impl.wireSteps", laid_loop_example_wholenet_impl_wireSteps)], narrowed := true }
def FnWireUptoSaid : Prop := fnWireUptoRow.holds Tryd.pinned (OpenSpec.upto fnWireSpec)

/-- 'laws.FnWayCut', WHERE WHAT IT READS IS OF BULK AT MOST 1048576: true; the input reads as it did. -/
def fnWayCutUptoRow : OpenClaim := { program := "ythcfjnedpffbbaadoor", sum := "01569453fa72ecbdad2d74027f8b83fb4b87f1d2d4a7f8c21cdfa61537b8f3d7", func := "loop.example/wholenet/laws.FnWayCut", spec := "fnWayCut", named := ["loop.example/wholenet/impl.wireSteps"], apart := false, laid := [("loop.example/wholenet/impl.wireSteps", laid_loop_example_wholenet_impl_wireSteps)], narrowed := true }
def FnWayCutUptoSaid : Prop := fnWayCutUptoRow.holds Tryd.pinned (OpenSpec.upto fnWayCutSpec)

/-- 'laws.FnWaitPairs', WHERE WHAT IT READS IS OF BULK AT MOST 1048576: true; the input reads as it did. -/
def fnWaitPairsUptoRow : OpenClaim := { program := "ythcfjnedpffbbaadoor", sum := "01569453fa72ecbdad2d74027f8b83fb4b87f1d2d4a7f8c21cdfa61537b8f3d7", func := "loop.example/wholenet/laws.FnWaitPairs", spec := "fnWaitPairs", named := ["loop.example/wholenet/impl.wireSteps"], apart := false, laid := [("loop.example/wholenet/impl.wireSteps", laid_loop_example_wholenet_impl_wireSteps)], narrowed := true }
def FnWaitPairsUptoSaid : Prop := fnWaitPairsUptoRow.holds Tryd.pinned (OpenSpec.upto fnWaitPairsSpec)

/-- 'laws.FnNoRound', WHERE WHAT IT READS IS OF BULK AT MOST 1048576: true; the input reads as it did. -/
def fnNoRoundUptoRow : OpenClaim := { program := "ythcfjnedpffbbaadoor", sum := "01569453fa72ecbdad2d74027f8b83fb4b87f1d2d4a7f8c21cdfa61537b8f3d7", func := "loop.example/wholenet/laws.FnNoRound", spec := "fnNoRound", recurses := true, named := ["loop.example/wholenet/impl.wireSteps"], apart := false, laid := [("loop.example/wholenet/impl.wireSteps", laid_loop_example_wholenet_impl_wireSteps)], narrowed := true }
def FnNoRoundUptoSaid : Prop := fnNoRoundUptoRow.holds Tryd.pinned (OpenSpec.upto fnNoRoundSpec)

/-- 'laws.FnRouteNoRound', WHERE WHAT IT READS IS OF BULK AT MOST 1048576: true; the input reads as it did. -/
def fnRouteNoRoundUptoRow : OpenClaim := { program := "ythcfjnedpffbbaadoor", sum := "01569453fa72ecbdad2d74027f8b83fb4b87f1d2d4a7f8c21cdfa61537b8f3d7", func := "loop.example/wholenet/laws.FnRouteNoRound", spec := "fnRouteNoRound", recurses := true, named := ["loop.example/wholenet/impl.wireSteps"], apart := false, laid := [("loop.example/wholenet/impl.wireSteps", laid_loop_example_wholenet_impl_wireSteps)], narrowed := true }
def FnRouteNoRoundUptoSaid : Prop := fnRouteNoRoundUptoRow.holds Tryd.pinned (OpenSpec.upto fnRouteNoRoundSpec)

/-- 'laws.FnAlone', WHERE WHAT IT READS IS OF BULK AT MOST 1048576: true; the input reads as it did. -/
def fnAloneUptoRow : OpenClaim := { program := "ythcfjnedpffbbaadoor", sum := "01569453fa72ecbdad2d74027f8b83fb4b87f1d2d4a7f8c21cdfa61537b8f3d7", func := "loop.example/wholenet/laws.FnAlone", spec := "fnAlone", named := ["loop.example/wholenet/impl.wireSteps"], apart := false, laid := [("loop.example/wholenet/impl.wireSteps", laid_loop_example_wholenet_impl_wireSteps)], narrowed := true }
def FnAloneUptoSaid : Prop := fnAloneUptoRow.holds Tryd.pinned (OpenSpec.upto fnAloneSpec)

/-- 'laws.FnExactWayValid', WHERE WHAT IT READS IS OF BULK AT MOST 1048576: true; the input reads as it did. -/
def fnExactWayValidUptoRow : OpenClaim := { program := "ythcfjnedpffbbaadoor", sum := "01569453fa72ecbdad2d74027f8b83fb4b87f1d2d4a7f8c21cdfa61537b8f3d7", func := "loop.example/wholenet/laws.FnExactWayValid", spec := "fnExactWayValid", named := ["loop.example/wholenet/impl.wireSteps"], apart := false, laid := [("loop.example/wholenet/impl.wireSteps", laid_loop_example_wholenet_impl_wireSteps)], narrowed := true }
def FnExactWayValidUptoSaid : Prop := fnExactWayValidUptoRow.holds Tryd.pinned (OpenSpec.upto fnExactWayValidSpec)

/-- 'laws.FnExactWireOf', WHERE WHAT IT READS IS OF BULK AT MOST 1048576: true; the input reads as it did. -/
def fnExactWireOfUptoRow : OpenClaim := { program := "ythcfjnedpffbbaadoor", sum := "01569453fa72ecbdad2d74027f8b83fb4b87f1d2d4a7f8c21cdfa61537b8f3d7", func := "loop.example/wholenet/laws.FnExactWireOf", spec := "fnExactWireOf", named := ["loop.example/wholenet/impl.wireSteps"], apart := false, laid := [("loop.example/wholenet/impl.wireSteps", laid_loop_example_wholenet_impl_wireSteps)], narrowed := true }
def FnExactWireOfUptoSaid : Prop := fnExactWireOfUptoRow.holds Tryd.pinned (OpenSpec.upto fnExactWireOfSpec)

/-- 'laws.FnExactWaitsOf', WHERE WHAT IT READS IS OF BULK AT MOST 1048576: true; the input reads as it did. -/
def fnExactWaitsOfUptoRow : OpenClaim := { program := "ythcfjnedpffbbaadoor", sum := "01569453fa72ecbdad2d74027f8b83fb4b87f1d2d4a7f8c21cdfa61537b8f3d7", func := "loop.example/wholenet/laws.FnExactWaitsOf", spec := "fnExactWaitsOf", named := ["loop.example/wholenet/impl.wireSteps"], apart := false, laid := [("loop.example/wholenet/impl.wireSteps", laid_loop_example_wholenet_impl_wireSteps)], narrowed := true }
def FnExactWaitsOfUptoSaid : Prop := fnExactWaitsOfUptoRow.holds Tryd.pinned (OpenSpec.upto fnExactWaitsOfSpec)

/-- 'laws.FnExactHasRound', WHERE WHAT IT READS IS OF BULK AT MOST 1048576: true; the input reads as it did. -/
def fnExactHasRoundUptoRow : OpenClaim := { program := "ythcfjnedpffbbaadoor", sum := "01569453fa72ecbdad2d74027f8b83fb4b87f1d2d4a7f8c21cdfa61537b8f3d7", func := "loop.example/wholenet/laws.FnExactHasRound", spec := "fnExactHasRound", recurses := true, named := ["loop.example/wholenet/impl.wireSteps"], apart := false, laid := [("loop.example/wholenet/impl.wireSteps", laid_loop_example_wholenet_impl_wireSteps)], narrowed := true }
def FnExactHasRoundUptoSaid : Prop := fnExactHasRoundUptoRow.holds Tryd.pinned (OpenSpec.upto fnExactHasRoundSpec)

/-- 'laws.FnExactRunWorms', WHERE WHAT IT READS IS OF BULK AT MOST 1048576: true; the input reads as it did. -/
def fnExactRunWormsUptoRow : OpenClaim := { program := "ythcfjnedpffbbaadoor", sum := "01569453fa72ecbdad2d74027f8b83fb4b87f1d2d4a7f8c21cdfa61537b8f3d7", func := "loop.example/wholenet/laws.FnExactRunWorms", spec := "fnExactRunWorms", named := ["loop.example/wholenet/impl.wireSteps"], apart := false, laid := [("loop.example/wholenet/impl.wireSteps", laid_loop_example_wholenet_impl_wireSteps)], narrowed := true }
def FnExactRunWormsUptoSaid : Prop := fnExactRunWormsUptoRow.holds Tryd.pinned (OpenSpec.upto fnExactRunWormsSpec)

end Rows
end Go.Proofs.YthcfjnedpffbbaaDoor

/-
  No cell of these rows narrows 'for every input' (looked for: loops, veiled, ifaces, maps, wideKeys, modest, calm, conditions, laid).
  DERIVED. THE GIVEN ROWS OF THIS SEAT. 12 by the template 'for every input the law returns true; each argument reads behind the call as it read before'; 0 by the template 'total and deterministic' (their statements: YtimddobedgopiaaTotals.lean).
  GIVEN WITH THE SEED: the statements are not yours to turn. If you find one false, say at which input.
  Laid BY PROGRAM, IN A SANDBOX (cutbox-rows.mjs): the forced cells as the released guide's own fill.sh prints them over the translation 485f80c83e21f817… (all of the seat's roots in one cut). By AI agents, Wed Nov 11 2026. No macro, syntax, notation, axiom, sorry.
-/
import Derived.Test.YtimddobedgopiaaChecked
import GoSem.Claim
import GoSem.ClaimJoined
import GoSem.ClaimMapViews
import Derived.JoinedTies
import Derived.KernelRfl
namespace Go.Proofs.Ytimddobedgopiaa
/- THE CELL 'sum', in the pinned program and in every row, IS THE sha256 OF THE DUMP (.gsa) THAT YtimddobedgopiaaProg.lean LOADS. Nothing in Lean hashes anything: it is a label: what it is worth is what the hold of that sum in a sandbox is worth. -/
noncomputable def Try.pinned : Pinned := { name := "ytimddobedgopiaa", sum := "485f80c83e21f81759c8a4fc4a0257242e4e7e00955c1d2e968e3c12a0edb303", checked := Try.checked }
namespace Rows
def none {H : Type} : Left H := { results := [], args := [] }

/-- 'laws.FnFlow': WHATEVER THE INPUT: true; the input reads as it did. -/
def fnFlowSpec : ChangeSpec := { name := "fnFlow", fn := fun _ => fun
  | [d] => { results := [.lit (.bool true)], args := [d] }
  | _ => none }
def fnFlowRow : OpenClaim := { program := "ytimddobedgopiaa", sum := "485f80c83e21f81759c8a4fc4a0257242e4e7e00955c1d2e968e3c12a0edb303", func := "loop.example/wholenet/laws.FnFlow", spec := "fnFlow", apart := false }
def FnFlowSaid : Prop := fnFlowRow.holds Try.pinned (OpenSpec.ofChange fnFlowSpec)

/-- ITS FALSE NEIGHBOUR: 'it returns false'. Refute it at one input. -/
def fnFlowWrong : ChangeSpec := { name := "fnFlow", fn := fun _ => fun
  | [d] => { results := [.lit (.bool false)], args := [d] }
  | _ => none }
def FnFlowWrongFalsely : Prop := fnFlowRow.holds Try.pinned (OpenSpec.ofChange fnFlowWrong)

/-- 'laws.FnMember': WHATEVER THE INPUT: true; the input reads as it did. -/
def fnMemberSpec : ChangeSpec := { name := "fnMember", fn := fun _ => fun
  | [d1, d2] => { results := [.lit (.bool true)], args := [d1, d2] }
  | _ => none }
def fnMemberRow : OpenClaim := { program := "ytimddobedgopiaa", sum := "485f80c83e21f81759c8a4fc4a0257242e4e7e00955c1d2e968e3c12a0edb303", func := "loop.example/wholenet/laws.FnMember", spec := "fnMember", apart := false }
def FnMemberSaid : Prop := fnMemberRow.holds Try.pinned (OpenSpec.ofChange fnMemberSpec)

/-- ITS FALSE NEIGHBOUR: 'it returns false'. Refute it at one input. -/
def fnMemberWrong : ChangeSpec := { name := "fnMember", fn := fun _ => fun
  | [d1, d2] => { results := [.lit (.bool false)], args := [d1, d2] }
  | _ => none }
def FnMemberWrongFalsely : Prop := fnMemberRow.holds Try.pinned (OpenSpec.ofChange fnMemberWrong)

/-- 'laws.FnShares': WHATEVER THE INPUT: true; the input reads as it did. -/
def fnSharesSpec : ChangeSpec := { name := "fnShares", fn := fun _ => fun
  | [d] => { results := [.lit (.bool true)], args := [d] }
  | _ => none }
def fnSharesRow : OpenClaim := { program := "ytimddobedgopiaa", sum := "485f80c83e21f81759c8a4fc4a0257242e4e7e00955c1d2e968e3c12a0edb303", func := "loop.example/wholenet/laws.FnShares", spec := "fnShares", unfollowed := true, recurses := true, apart := false }
def FnSharesSaid : Prop := fnSharesRow.holds Try.pinned (OpenSpec.ofChange fnSharesSpec)

/-- ITS FALSE NEIGHBOUR: 'it returns false'. Refute it at one input. -/
def fnSharesWrong : ChangeSpec := { name := "fnShares", fn := fun _ => fun
  | [d] => { results := [.lit (.bool false)], args := [d] }
  | _ => none }
def FnSharesWrongFalsely : Prop := fnSharesRow.holds Try.pinned (OpenSpec.ofChange fnSharesWrong)

/-- 'laws.FnMoved': WHATEVER THE INPUT: true; the input reads as it did. -/
def fnMovedSpec : ChangeSpec := { name := "fnMoved", fn := fun _ => fun
  | [d] => { results := [.lit (.bool true)], args := [d] }
  | _ => none }
def fnMovedRow : OpenClaim := { program := "ytimddobedgopiaa", sum := "485f80c83e21f81759c8a4fc4a0257242e4e7e00955c1d2e968e3c12a0edb303", func := "loop.example/wholenet/laws.FnMoved", spec := "fnMoved", unfollowed := true, recurses := true, apart := false }
def FnMovedSaid : Prop := fnMovedRow.holds Try.pinned (OpenSpec.ofChange fnMovedSpec)

/-- ITS FALSE NEIGHBOUR: 'it returns false'. Refute it at one input. -/
def fnMovedWrong : ChangeSpec := { name := "fnMoved", fn := fun _ => fun
  | [d] => { results := [.lit (.bool false)], args := [d] }
  | _ => none }
def FnMovedWrongFalsely : Prop := fnMovedRow.holds Try.pinned (OpenSpec.ofChange fnMovedWrong)

/-- 'laws.FnMovedBack': WHATEVER THE INPUT: true; the input reads as it did. -/
def fnMovedBackSpec : ChangeSpec := { name := "fnMovedBack", fn := fun _ => fun
  | [d] => { results := [.lit (.bool true)], args := [d] }
  | _ => none }
def fnMovedBackRow : OpenClaim := { program := "ytimddobedgopiaa", sum := "485f80c83e21f81759c8a4fc4a0257242e4e7e00955c1d2e968e3c12a0edb303", func := "loop.example/wholenet/laws.FnMovedBack", spec := "fnMovedBack", unfollowed := true, recurses := true, apart := false }
def FnMovedBackSaid : Prop := fnMovedBackRow.holds Try.pinned (OpenSpec.ofChange fnMovedBackSpec)

/-- ITS FALSE NEIGHBOUR: 'it returns false'. Refute it at one input. -/
def fnMovedBackWrong : ChangeSpec := { name := "fnMovedBack", fn := fun _ => fun
  | [d] => { results := [.lit (.bool false)], args := [d] }
  | _ => none }
def FnMovedBackWrongFalsely : Prop := fnMovedBackRow.holds Try.pinned (OpenSpec.ofChange fnMovedBackWrong)

/-- 'laws.FnSpread': WHATEVER THE INPUT: true; the input reads as it did. -/
def fnSpreadSpec : ChangeSpec := { name := "fnSpread", fn := fun _ => fun
  | [d] => { results := [.lit (.bool true)], args := [d] }
  | _ => none }
def fnSpreadRow : OpenClaim := { program := "ytimddobedgopiaa", sum := "485f80c83e21f81759c8a4fc4a0257242e4e7e00955c1d2e968e3c12a0edb303", func := "loop.example/wholenet/laws.FnSpread", spec := "fnSpread", unfollowed := true, recurses := true, apart := false }
def FnSpreadSaid : Prop := fnSpreadRow.holds Try.pinned (OpenSpec.ofChange fnSpreadSpec)

/-- ITS FALSE NEIGHBOUR: 'it returns false'. Refute it at one input. -/
def fnSpreadWrong : ChangeSpec := { name := "fnSpread", fn := fun _ => fun
  | [d] => { results := [.lit (.bool false)], args := [d] }
  | _ => none }
def FnSpreadWrongFalsely : Prop := fnSpreadRow.holds Try.pinned (OpenSpec.ofChange fnSpreadWrong)

/-- 'laws.FnExactFlowOf': WHATEVER THE INPUT: true; the input reads as it did. -/
def fnExactFlowOfSpec : ChangeSpec := { name := "fnExactFlowOf", fn := fun _ => fun
  | [d1, d2] => { results := [.lit (.bool true)], args := [d1, d2] }
  | _ => none }
def fnExactFlowOfRow : OpenClaim := { program := "ytimddobedgopiaa", sum := "485f80c83e21f81759c8a4fc4a0257242e4e7e00955c1d2e968e3c12a0edb303", func := "loop.example/wholenet/laws.FnExactFlowOf", spec := "fnExactFlowOf", apart := false }
def FnExactFlowOfSaid : Prop := fnExactFlowOfRow.holds Try.pinned (OpenSpec.ofChange fnExactFlowOfSpec)

/-- ITS FALSE NEIGHBOUR: 'it returns false'. Refute it at one input. -/
def fnExactFlowOfWrong : ChangeSpec := { name := "fnExactFlowOf", fn := fun _ => fun
  | [d1, d2] => { results := [.lit (.bool false)], args := [d1, d2] }
  | _ => none }
def FnExactFlowOfWrongFalsely : Prop := fnExactFlowOfRow.holds Try.pinned (OpenSpec.ofChange fnExactFlowOfWrong)

/-- 'laws.FnExactScoreOf': WHATEVER THE INPUT: true; the input reads as it did. -/
def fnExactScoreOfSpec : ChangeSpec := { name := "fnExactScoreOf", fn := fun _ => fun
  | [d1, d2] => { results := [.lit (.bool true)], args := [d1, d2] }
  | _ => none }
def fnExactScoreOfRow : OpenClaim := { program := "ytimddobedgopiaa", sum := "485f80c83e21f81759c8a4fc4a0257242e4e7e00955c1d2e968e3c12a0edb303", func := "loop.example/wholenet/laws.FnExactScoreOf", spec := "fnExactScoreOf", apart := false }
def FnExactScoreOfSaid : Prop := fnExactScoreOfRow.holds Try.pinned (OpenSpec.ofChange fnExactScoreOfSpec)

/-- ITS FALSE NEIGHBOUR: 'it returns false'. Refute it at one input. -/
def fnExactScoreOfWrong : ChangeSpec := { name := "fnExactScoreOf", fn := fun _ => fun
  | [d1, d2] => { results := [.lit (.bool false)], args := [d1, d2] }
  | _ => none }
def FnExactScoreOfWrongFalsely : Prop := fnExactScoreOfRow.holds Try.pinned (OpenSpec.ofChange fnExactScoreOfWrong)

/-- 'laws.FnExactMemberFor': WHATEVER THE INPUT: true; the input reads as it did. -/
def fnExactMemberForSpec : ChangeSpec := { name := "fnExactMemberFor", fn := fun _ => fun
  | [d1, d2] => { results := [.lit (.bool true)], args := [d1, d2] }
  | _ => none }
def fnExactMemberForRow : OpenClaim := { program := "ytimddobedgopiaa", sum := "485f80c83e21f81759c8a4fc4a0257242e4e7e00955c1d2e968e3c12a0edb303", func := "loop.example/wholenet/laws.FnExactMemberFor", spec := "fnExactMemberFor", apart := false }
def FnExactMemberForSaid : Prop := fnExactMemberForRow.holds Try.pinned (OpenSpec.ofChange fnExactMemberForSpec)

/-- ITS FALSE NEIGHBOUR: 'it returns false'. Refute it at one input. -/
def fnExactMemberForWrong : ChangeSpec := { name := "fnExactMemberFor", fn := fun _ => fun
  | [d1, d2] => { results := [.lit (.bool false)], args := [d1, d2] }
  | _ => none }
def FnExactMemberForWrongFalsely : Prop := fnExactMemberForRow.holds Try.pinned (OpenSpec.ofChange fnExactMemberForWrong)

/-- 'laws.FnExactSharesOf': WHATEVER THE INPUT: true; the input reads as it did. -/
def fnExactSharesOfSpec : ChangeSpec := { name := "fnExactSharesOf", fn := fun _ => fun
  | [d] => { results := [.lit (.bool true)], args := [d] }
  | _ => none }
def fnExactSharesOfRow : OpenClaim := { program := "ytimddobedgopiaa", sum := "485f80c83e21f81759c8a4fc4a0257242e4e7e00955c1d2e968e3c12a0edb303", func := "loop.example/wholenet/laws.FnExactSharesOf", spec := "fnExactSharesOf", unfollowed := true, recurses := true, apart := false }
def FnExactSharesOfSaid : Prop := fnExactSharesOfRow.holds Try.pinned (OpenSpec.ofChange fnExactSharesOfSpec)

/-- ITS FALSE NEIGHBOUR: 'it returns false'. Refute it at one input. -/
def fnExactSharesOfWrong : ChangeSpec := { name := "fnExactSharesOf", fn := fun _ => fun
  | [d] => { results := [.lit (.bool false)], args := [d] }
  | _ => none }
def FnExactSharesOfWrongFalsely : Prop := fnExactSharesOfRow.holds Try.pinned (OpenSpec.ofChange fnExactSharesOfWrong)

/-- 'laws.FnExactMovedFlows': WHATEVER THE INPUT: true; the input reads as it did. -/
def fnExactMovedFlowsSpec : ChangeSpec := { name := "fnExactMovedFlows", fn := fun _ => fun
  | [d1, d2] => { results := [.lit (.bool true)], args := [d1, d2] }
  | _ => none }
def fnExactMovedFlowsRow : OpenClaim := { program := "ytimddobedgopiaa", sum := "485f80c83e21f81759c8a4fc4a0257242e4e7e00955c1d2e968e3c12a0edb303", func := "loop.example/wholenet/laws.FnExactMovedFlows", spec := "fnExactMovedFlows", unfollowed := true, recurses := true, apart := false }
def FnExactMovedFlowsSaid : Prop := fnExactMovedFlowsRow.holds Try.pinned (OpenSpec.ofChange fnExactMovedFlowsSpec)

/-- ITS FALSE NEIGHBOUR: 'it returns false'. Refute it at one input. -/
def fnExactMovedFlowsWrong : ChangeSpec := { name := "fnExactMovedFlows", fn := fun _ => fun
  | [d1, d2] => { results := [.lit (.bool false)], args := [d1, d2] }
  | _ => none }
def FnExactMovedFlowsWrongFalsely : Prop := fnExactMovedFlowsRow.holds Try.pinned (OpenSpec.ofChange fnExactMovedFlowsWrong)

/-- 'laws.FnExactSpreadFrames': WHATEVER THE INPUT: true; the input reads as it did. -/
def fnExactSpreadFramesSpec : ChangeSpec := { name := "fnExactSpreadFrames", fn := fun _ => fun
  | [d1, d2] => { results := [.lit (.bool true)], args := [d1, d2] }
  | _ => none }
def fnExactSpreadFramesRow : OpenClaim := { program := "ytimddobedgopiaa", sum := "485f80c83e21f81759c8a4fc4a0257242e4e7e00955c1d2e968e3c12a0edb303", func := "loop.example/wholenet/laws.FnExactSpreadFrames", spec := "fnExactSpreadFrames", unfollowed := true, recurses := true, apart := false }
def FnExactSpreadFramesSaid : Prop := fnExactSpreadFramesRow.holds Try.pinned (OpenSpec.ofChange fnExactSpreadFramesSpec)

/-- ITS FALSE NEIGHBOUR: 'it returns false'. Refute it at one input. -/
def fnExactSpreadFramesWrong : ChangeSpec := { name := "fnExactSpreadFrames", fn := fun _ => fun
  | [d1, d2] => { results := [.lit (.bool false)], args := [d1, d2] }
  | _ => none }
def FnExactSpreadFramesWrongFalsely : Prop := fnExactSpreadFramesRow.holds Try.pinned (OpenSpec.ofChange fnExactSpreadFramesWrong)

/- THE SECOND FORM. 'bulk': how many values and letters a reading holds, each counted each time it is reached (what is shared counts as often as it is met; a slice's spare places count too). A statement '..UptoSaid' is the law's where the arguments, and the package variables that the reading takes, are together of bulk at most 1048576: NARROWER than '..Said'. Prove '..Said' where nothing that the law and all that it calls make is longer than what came in: it says more and counts as full. Else prove '..UptoSaid'. A law counts once. -/
mutual
def uptoBulk {H : Type} : DataW H → Nat
  | .lit (.string bytes) => bytes.length + 1
  | .lit _ => 1
  | .nil => 1
  | .ptr d => uptoBulk d + 1
  | .slice elems spare => uptoBulkAll elems + uptoBulkAll spare + 1
  | .agg parts => uptoBulkAll parts + 1
  | .iface _ d => uptoBulk d + 1
  | .map entries => uptoBulkEntries entries + 1
  | .held _ => 1
def uptoBulkAll {H : Type} : List (DataW H) → Nat
  | [] => 0
  | d :: r => uptoBulk d + uptoBulkAll r
def uptoBulkEntries {H : Type} : List (Lit × DataW H) → Nat
  | [] => 0
  | x :: r => uptoBulkEntry x + uptoBulkEntries r
def uptoBulkEntry {H : Type} : Lit × DataW H → Nat
  | (.string bytes, d) => bytes.length + uptoBulk d + 1
  | (_, d) => uptoBulk d + 1
 end
def uptoSmall : (H : Type) → List (DataW H) → Bool := fun _ ds => decide (uptoBulkAll ds ≤ 1048576)
def OpenSpec.upto (s : _root_.Go.ChangeSpec) : _root_.Go.OpenSpec := { _root_.Go.OpenSpec.ofChange s with cond := some uptoSmall }

/-- 'laws.FnFlow', WHERE WHAT IT READS IS OF BULK AT MOST 1048576: true; the input reads as it did. -/
def fnFlowUptoRow : OpenClaim := { program := "ytimddobedgopiaa", sum := "485f80c83e21f81759c8a4fc4a0257242e4e7e00955c1d2e968e3c12a0edb303", func := "loop.example/wholenet/laws.FnFlow", spec := "fnFlow", apart := false, narrowed := true }
def FnFlowUptoSaid : Prop := fnFlowUptoRow.holds Try.pinned (OpenSpec.upto fnFlowSpec)

/-- 'laws.FnMember', WHERE WHAT IT READS IS OF BULK AT MOST 1048576: true; the input reads as it did. -/
def fnMemberUptoRow : OpenClaim := { program := "ytimddobedgopiaa", sum := "485f80c83e21f81759c8a4fc4a0257242e4e7e00955c1d2e968e3c12a0edb303", func := "loop.example/wholenet/laws.FnMember", spec := "fnMember", apart := false, narrowed := true }
def FnMemberUptoSaid : Prop := fnMemberUptoRow.holds Try.pinned (OpenSpec.upto fnMemberSpec)

/-- 'laws.FnShares', WHERE WHAT IT READS IS OF BULK AT MOST 1048576: true; the input reads as it did. -/
def fnSharesUptoRow : OpenClaim := { program := "ytimddobedgopiaa", sum := "485f80c83e21f81759c8a4fc4a0257242e4e7e00955c1d2e968e3c12a0edb303", func := "loop.example/wholenet/laws.FnShares", spec := "fnShares", unfollowed := true, recurses := true, apart := false, narrowed := true }
def FnSharesUptoSaid : Prop := fnSharesUptoRow.holds Try.pinned (OpenSpec.upto fnSharesSpec)

/-- 'laws.FnMoved', WHERE WHAT IT READS IS OF BULK AT MOST 1048576: true; the input reads as it did. -/
def fnMovedUptoRow : OpenClaim := { program := "ytimddobedgopiaa", sum := "485f80c83e21f81759c8a4fc4a0257242e4e7e00955c1d2e968e3c12a0edb303", func := "loop.example/wholenet/laws.FnMoved", spec := "fnMoved", unfollowed := true, recurses := true, apart := false, narrowed := true }
def FnMovedUptoSaid : Prop := fnMovedUptoRow.holds Try.pinned (OpenSpec.upto fnMovedSpec)

/-- 'laws.FnMovedBack', WHERE WHAT IT READS IS OF BULK AT MOST 1048576: true; the input reads as it did. -/
def fnMovedBackUptoRow : OpenClaim := { program := "ytimddobedgopiaa", sum := "485f80c83e21f81759c8a4fc4a0257242e4e7e00955c1d2e968e3c12a0edb303", func := "loop.example/wholenet/laws.FnMovedBack", spec := "fnMovedBack", unfollowed := true, recurses := true, apart := false, narrowed := true }
def FnMovedBackUptoSaid : Prop := fnMovedBackUptoRow.holds Try.pinned (OpenSpec.upto fnMovedBackSpec)

/-- 'laws.FnSpread', WHERE WHAT IT READS IS OF BULK AT MOST 1048576: true; the input reads as it did. -/
def fnSpreadUptoRow : OpenClaim := { program := "ytimddobedgopiaa", sum := "485f80c83e21f81759c8a4fc4a0257242e4e7e00955c1d2e968e3c12a0edb303", func := "loop.example/wholenet/laws.FnSpread", spec := "fnSpread", unfollowed := true, recurses := true, apart := false, narrowed := true }
def FnSpreadUptoSaid : Prop := fnSpreadUptoRow.holds Try.pinned (OpenSpec.upto fnSpreadSpec)

/-- 'laws.FnExactFlowOf', WHERE WHAT IT READS IS OF BULK AT MOST 1048576: true; the input reads as it did. -/
def fnExactFlowOfUptoRow : OpenClaim := { program := "ytimddobedgopiaa", sum := "485f80c83e21f81759c8a4fc4a0257242e4e7e00955c1d2e968e3c12a0edb303", func := "loop.example/wholenet/laws.FnExactFlowOf", spec := "fnExactFlowOf", apart := false, narrowed := true }
def FnExactFlowOfUptoSaid : Prop := fnExactFlowOfUptoRow.holds Try.pinned (OpenSpec.upto fnExactFlowOfSpec)

/-- 'laws.FnExactScoreOf', WHERE WHAT IT READS IS OF BULK AT MOST 1048576: true; the input reads as it did. -/
def fnExactScoreOfUptoRow : OpenClaim := { program := "ytimddobedgopiaa", sum := "485f80c83e21f81759c8a4fc4a0257242e4e7e00955c1d2e968e3c12a0edb303", func := "loop.example/wholenet/laws.FnExactScoreOf", spec := "fnExactScoreOf", apart := false, narrowed := true }
def FnExactScoreOfUptoSaid : Prop := fnExactScoreOfUptoRow.holds Try.pinned (OpenSpec.upto fnExactScoreOfSpec)

/-- 'laws.FnExactMemberFor', WHERE WHAT IT READS IS OF BULK AT MOST 1048576: true; the input reads as it did. -/
def fnExactMemberForUptoRow : OpenClaim := { program := "ytimddobedgopiaa", sum := "485f80c83e21f81759c8a4fc4a0257242e4e7e00955c1d2e968e3c12a0edb303", func := "loop.example/wholenet/laws.FnExactMemberFor", spec := "fnExactMemberFor", apart := false, narrowed := true }
def FnExactMemberForUptoSaid : Prop := fnExactMemberForUptoRow.holds Try.pinned (OpenSpec.upto fnExactMemberForSpec)

/-- 'laws.FnExactSharesOf', WHERE WHAT IT READS IS OF BULK AT MOST 1048576: true; the input reads as it did. -/
def fnExactSharesOfUptoRow : OpenClaim := { program := "ytimddobedgopiaa", sum := "485f80c83e21f81759c8a4fc4a0257242e4e7e00955c1d2e968e3c12a0edb303", func := "loop.example/wholenet/laws.FnExactSharesOf", spec := "fnExactSharesOf", unfollowed := true, recurses := true, apart := false, narrowed := true }
def FnExactSharesOfUptoSaid : Prop := fnExactSharesOfUptoRow.holds Try.pinned (OpenSpec.upto fnExactSharesOfSpec)

/-- 'laws.FnExactMovedFlows', WHERE WHAT IT READS IS OF BULK AT MOST 1048576: true; the input reads as it did. -/
def fnExactMovedFlowsUptoRow : OpenClaim := { program := "ytimddobedgopiaa", sum := "485f80c83e21f81759c8a4fc4a0257242e4e7e00955c1d2e968e3c12a0edb303", func := "loop.example/wholenet/laws.FnExactMovedFlows", spec := "fnExactMovedFlows", unfollowed := true, recurses := true, apart := false, narrowed := true }
def FnExactMovedFlowsUptoSaid : Prop := fnExactMovedFlowsUptoRow.holds Try.pinned (OpenSpec.upto fnExactMovedFlowsSpec)

/-- 'laws.FnExactSpreadFrames', WHERE WHAT IT READS IS OF BULK AT MOST 1048576: true; the input reads as it did. -/
def fnExactSpreadFramesUptoRow : OpenClaim := { program := "ytimddobedgopiaa", sum := "485f80c83e21f81759c8a4fc4a0257242e4e7e00955c1d2e968e3c12a0edb303", func := "loop.example/wholenet/laws.FnExactSpreadFrames", spec := "fnExactSpreadFrames", unfollowed := true, recurses := true, apart := false, narrowed := true }
def FnExactSpreadFramesUptoSaid : Prop := fnExactSpreadFramesUptoRow.holds Try.pinned (OpenSpec.upto fnExactSpreadFramesSpec)

end Rows
end Go.Proofs.Ytimddobedgopiaa

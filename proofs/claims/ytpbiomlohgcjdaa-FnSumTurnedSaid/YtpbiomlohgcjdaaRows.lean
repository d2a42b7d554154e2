/-
  No cell of these rows narrows 'for every input' (looked for: loops, veiled, ifaces, maps, wideKeys, modest, calm, conditions, laid).
  DERIVED. THE GIVEN ROWS OF THIS SEAT. 5 by the template 'for every input the law returns true; each argument reads behind the call as it read before'; 0 by the template 'total and deterministic' (their statements: YtpbiomlohgcjdaaTotals.lean).
  GIVEN WITH THE SEED: the statements are not yours to turn. If you find one false, say at which input.
  Laid BY PROGRAM, IN A SANDBOX (cutbox-rows.mjs): the forced cells as the released guide's own fill.sh prints them over the translation 6f792e5cf340298d… (all of the seat's roots in one cut). By AI agents, Wed Nov 11 2026. No macro, syntax, notation, axiom, sorry.
-/
import Derived.Test.YtpbiomlohgcjdaaChecked
import GoSem.Claim
import GoSem.ClaimJoined
import GoSem.ClaimMapViews
import Derived.JoinedTies
import Derived.KernelRfl
namespace Go.Proofs.Ytpbiomlohgcjdaa
/- THE CELL 'sum', in the pinned program and in every row, IS THE sha256 OF THE DUMP (.gsa) THAT YtpbiomlohgcjdaaProg.lean LOADS. Nothing in Lean hashes anything: it is a label: what it is worth is what the hold of that sum in a sandbox is worth. -/
noncomputable def Try.pinned : Pinned := { name := "ytpbiomlohgcjdaa", sum := "6f792e5cf340298d0a50c15d3af737a544e78602c1a266ca91bf083e1e84f5de", checked := Try.checked }
namespace Rows
def none {H : Type} : Left H := { results := [], args := [] }

/-- 'laws.FnSumOrder': WHATEVER THE INPUT: true; the input reads as it did. -/
def fnSumOrderSpec : ChangeSpec := { name := "fnSumOrder", fn := fun _ => fun
  | [d] => { results := [.lit (.bool true)], args := [d] }
  | _ => none }
def fnSumOrderRow : OpenClaim := { program := "ytpbiomlohgcjdaa", sum := "6f792e5cf340298d0a50c15d3af737a544e78602c1a266ca91bf083e1e84f5de", func := "loop.example/wholenet/laws.FnSumOrder", spec := "fnSumOrder", apart := false }
def FnSumOrderSaid : Prop := fnSumOrderRow.holds Try.pinned (OpenSpec.ofChange fnSumOrderSpec)

/-- ITS FALSE NEIGHBOUR: 'it returns false'. Refute it at one input. -/
def fnSumOrderWrong : ChangeSpec := { name := "fnSumOrder", fn := fun _ => fun
  | [d] => { results := [.lit (.bool false)], args := [d] }
  | _ => none }
def FnSumOrderWrongFalsely : Prop := fnSumOrderRow.holds Try.pinned (OpenSpec.ofChange fnSumOrderWrong)

/-- 'laws.FnSumTurned': WHATEVER THE INPUT: true; the input reads as it did. -/
def fnSumTurnedSpec : ChangeSpec := { name := "fnSumTurned", fn := fun _ => fun
  | [d1, d2] => { results := [.lit (.bool true)], args := [d1, d2] }
  | _ => none }
def fnSumTurnedRow : OpenClaim := { program := "ytpbiomlohgcjdaa", sum := "6f792e5cf340298d0a50c15d3af737a544e78602c1a266ca91bf083e1e84f5de", func := "loop.example/wholenet/laws.FnSumTurned", spec := "fnSumTurned", apart := false }
def FnSumTurnedSaid : Prop := fnSumTurnedRow.holds Try.pinned (OpenSpec.ofChange fnSumTurnedSpec)

/-- ITS FALSE NEIGHBOUR: 'it returns false'. Refute it at one input. -/
def fnSumTurnedWrong : ChangeSpec := { name := "fnSumTurned", fn := fun _ => fun
  | [d1, d2] => { results := [.lit (.bool false)], args := [d1, d2] }
  | _ => none }
def FnSumTurnedWrongFalsely : Prop := fnSumTurnedRow.holds Try.pinned (OpenSpec.ofChange fnSumTurnedWrong)

/-- 'laws.FnExactSumOf': WHATEVER THE INPUT: true; the input reads as it did. -/
def fnExactSumOfSpec : ChangeSpec := { name := "fnExactSumOf", fn := fun _ => fun
  | [d] => { results := [.lit (.bool true)], args := [d] }
  | _ => none }
def fnExactSumOfRow : OpenClaim := { program := "ytpbiomlohgcjdaa", sum := "6f792e5cf340298d0a50c15d3af737a544e78602c1a266ca91bf083e1e84f5de", func := "loop.example/wholenet/laws.FnExactSumOf", spec := "fnExactSumOf", apart := false }
def FnExactSumOfSaid : Prop := fnExactSumOfRow.holds Try.pinned (OpenSpec.ofChange fnExactSumOfSpec)

/-- ITS FALSE NEIGHBOUR: 'it returns false'. Refute it at one input. -/
def fnExactSumOfWrong : ChangeSpec := { name := "fnExactSumOf", fn := fun _ => fun
  | [d] => { results := [.lit (.bool false)], args := [d] }
  | _ => none }
def FnExactSumOfWrongFalsely : Prop := fnExactSumOfRow.holds Try.pinned (OpenSpec.ofChange fnExactSumOfWrong)

/-- 'laws.FnExactSumTurned': WHATEVER THE INPUT: true; the input reads as it did. -/
def fnExactSumTurnedSpec : ChangeSpec := { name := "fnExactSumTurned", fn := fun _ => fun
  | [d1, d2, d3] => { results := [.lit (.bool true)], args := [d1, d2, d3] }
  | _ => none }
def fnExactSumTurnedRow : OpenClaim := { program := "ytpbiomlohgcjdaa", sum := "6f792e5cf340298d0a50c15d3af737a544e78602c1a266ca91bf083e1e84f5de", func := "loop.example/wholenet/laws.FnExactSumTurned", spec := "fnExactSumTurned", apart := false }
def FnExactSumTurnedSaid : Prop := fnExactSumTurnedRow.holds Try.pinned (OpenSpec.ofChange fnExactSumTurnedSpec)

/-- ITS FALSE NEIGHBOUR: 'it returns false'. Refute it at one input. -/
def fnExactSumTurnedWrong : ChangeSpec := { name := "fnExactSumTurned", fn := fun _ => fun
  | [d1, d2, d3] => { results := [.lit (.bool false)], args := [d1, d2, d3] }
  | _ => none }
def FnExactSumTurnedWrongFalsely : Prop := fnExactSumTurnedRow.holds Try.pinned (OpenSpec.ofChange fnExactSumTurnedWrong)

/-- 'laws.FnExactSumRight': WHATEVER THE INPUT: true; the input reads as it did. -/
def fnExactSumRightSpec : ChangeSpec := { name := "fnExactSumRight", fn := fun _ => fun
  | [d] => { results := [.lit (.bool true)], args := [d] }
  | _ => none }
def fnExactSumRightRow : OpenClaim := { program := "ytpbiomlohgcjdaa", sum := "6f792e5cf340298d0a50c15d3af737a544e78602c1a266ca91bf083e1e84f5de", func := "loop.example/wholenet/laws.FnExactSumRight", spec := "fnExactSumRight", apart := false }
def FnExactSumRightSaid : Prop := fnExactSumRightRow.holds Try.pinned (OpenSpec.ofChange fnExactSumRightSpec)

/-- ITS FALSE NEIGHBOUR: 'it returns false'. Refute it at one input. -/
def fnExactSumRightWrong : ChangeSpec := { name := "fnExactSumRight", fn := fun _ => fun
  | [d] => { results := [.lit (.bool false)], args := [d] }
  | _ => none }
def FnExactSumRightWrongFalsely : Prop := fnExactSumRightRow.holds Try.pinned (OpenSpec.ofChange fnExactSumRightWrong)

/- THE SECOND FORM. 'bulk': how many values and letters a reading holds, each counted each time it is reached (what is shared counts as often as it is met; a slice's spare places count too). A statement '..UptoSaid' is the law's where the arguments, and the package variables that the reading takes, are together of bulk at most 1048576: NARROWER than '..Said'. Prove '..Said' where nothing that the law and all that it calls make is longer than what came in: it says more and counts as full. Else prove '..UptoSaid'. A law counts once. -/
mutual
def uptoBulk {H : Type} : DataW H → Nat
  | .lit (.string bytes) => bytes.length + 1
  | .lit _ => 1
  | .nil => 1
  | .ptr d => uptoBulk d + 1
  | .slice elems spare => uptoBulkAll elems + uptoBulkAll spare + 1
  | .agg parts => uptoBulkAll parts + 1
  | .iface _ d => uptoBulk d + 1
  | .map entries => uptoBulkEntries entries + 1
  | .held _ => 1
def uptoBulkAll {H : Type} : List (DataW H) → Nat
  | [] => 0
  | d :: r => uptoBulk d + uptoBulkAll r
def uptoBulkEntries {H : Type} : List (Lit × DataW H) → Nat
  | [] => 0
  | x :: r => uptoBulkEntry x + uptoBulkEntries r
def uptoBulkEntry {H : Type} : Lit × DataW H → Nat
  | (.string bytes, d) => bytes.length + uptoBulk d + 1
  | (_, d) => uptoBulk d + 1
 end
def uptoSmall : (H : Type) → List (DataW H) → Bool := fun _ ds => decide (uptoBulkAll ds ≤ 1048576)
def OpenSpec.upto (s : _root_.Go.ChangeSpec) : _root_.Go.OpenSpec := { _root_.Go.OpenSpec.ofChange s with cond := some uptoSmall }

/-- 'laws.FnSumOrder', WHERE WHAT IT READS IS OF BULK AT MOST 1048576: true; the input reads as it did. -/
def fnSumOrderUptoRow : OpenClaim := { program := "ytpbiomlohgcjdaa", sum := "6f792e5cf340298d0a50c15d3af737a544e78602c1a266ca91bf083e1e84f5de", func := "loop.example/wholenet/laws.FnSumOrder", spec := "fnSumOrder", apart := false, narrowed := true }
def FnSumOrderUptoSaid : Prop := fnSumOrderUptoRow.holds Try.pinned (OpenSpec.upto fnSumOrderSpec)

/-- 'laws.FnSumTurned', WHERE WHAT IT READS IS OF BULK AT MOST 1048576: true; the input reads as it did. -/
def fnSumTurnedUptoRow : OpenClaim := { program := "ytpbiomlohgcjdaa", sum := "6f792e5cf340298d0a50c15d3af737a544e78602c1a266ca91bf083e1e84f5de", func := "loop.example/wholenet/laws.FnSumTurned", spec := "fnSumTurned", apart := false, narrowed := true }
def FnSumTurnedUptoSaid : Prop := fnSumTurnedUptoRow.holds Try.pinned (OpenSpec.upto fnSumTurnedSpec)

/-- 'laws.FnExactSumOf', WHERE WHAT IT READS IS OF BULK AT MOST 1048576: true; the input reads as it did. -/
def fnExactSumOfUptoRow : OpenClaim := { program := "ytpbiomlohgcjdaa", sum := "6f792e5cf340298d0a50c15d3af737a544e78602c1a266ca91bf083e1e84f5de", func := "loop.example/wholenet/laws.FnExactSumOf", spec := "fnExactSumOf", apart := false, narrowed := true }
def FnExactSumOfUptoSaid : Prop := fnExactSumOfUptoRow.holds Try.pinned (OpenSpec.upto fnExactSumOfSpec)

/-- 'laws.FnExactSumTurned', WHERE WHAT IT READS IS OF BULK AT MOST 1048576: true; the input reads as it did. -/
def fnExactSumTurnedUptoRow : OpenClaim := { program := "ytpbiomlohgcjdaa", sum := "6f792e5cf340298d0a50c15d3af737a544e78602c1a266ca91bf083e1e84f5de", func := "loop.example/wholenet/laws.FnExactSumTurned", spec := "fnExactSumTurned", apart := false, narrowed := true }
def FnExactSumTurnedUptoSaid : Prop := fnExactSumTurnedUptoRow.holds Try.pinned (OpenSpec.upto fnExactSumTurnedSpec)

/-- 'laws.FnExactSumRight', WHERE WHAT IT READS IS OF BULK AT MOST 1048576: true; the input reads as it did. -/
def fnExactSumRightUptoRow : OpenClaim := { program := "ytpbiomlohgcjdaa", sum := "6f792e5cf340298d0a50c15d3af737a544e78602c1a266ca91bf083e1e84f5de", func := "loop.example/wholenet/laws.FnExactSumRight", spec := "fnExactSumRight", apart := false, narrowed := true }
def FnExactSumRightUptoSaid : Prop := fnExactSumRightUptoRow.holds Try.pinned (OpenSpec.upto fnExactSumRightSpec)

end Rows
end Go.Proofs.Ytpbiomlohgcjdaa

/-
  NARROWER THAN 'FOR EVERY INPUT', by the rows' own cells (each row's printed sentence says how): FnDecodeBytes: laid.
  DERIVED. THE GIVEN ROWS OF THIS SEAT. 1 by the template 'for every input the law returns true; each argument reads behind the call as it read before'; 0 by the template 'total and deterministic' (their statements: YtpbiomlohgcjdaaDoorTotals.lean).
  GIVEN WITH THE SEED: the statements are not yours to turn. If you find one false, say at which input.
  Laid BY PROGRAM, IN A SANDBOX (cutbox-rows.mjs): the forced cells as the released guide's own fill.sh prints them over the translation b19ff232bcf14a0e… (all of the seat's roots in one cut). By AI agents, Wed Nov 11 2026. No macro, syntax, notation, axiom, sorry.
-/
import Derived.Test.YtpbiomlohgcjdaaDoorChecked
import GoSem.Claim
import GoSem.ClaimJoined
import GoSem.ClaimMapViews
import Derived.JoinedTies
import Derived.KernelRfl
namespace Go.Proofs.YtpbiomlohgcjdaaDoor
/- THE CELL 'sum', in the pinned program and in every row, IS THE sha256 OF THE DUMP (.gsa) THAT YtpbiomlohgcjdaaDoorProg.lean LOADS. Nothing in Lean hashes anything: it is a label: what it is worth is what the hold of that sum in a sandbox is worth. -/
noncomputable def Tryd.pinned : Pinned := { name := "ytpbiomlohgcjdaadoor", sum := "b19ff232bcf14a0e65f7030e7e7ad2cdc10f3f951db719e73770f5332e6d1d5f", checked := Tryd.checked }
namespace Rows
def none {H : Type} : Left H := { results := [], args := [] }

/- WHAT THE LISTED PACKAGE-LEVEL VARIABLES READ AS WHEN THE CALL BEGINS. Each datum BY PROGRAM (the guide's laid-datum.mjs) off the statement by which the dump's own 'gosem.cut.vars' lays the variable. In a bare row this is a premise. The card (YtpbiomlohgcjdaaDoorCards.lean) ties it to the program's text. -/
def laid_loop_example_wholenet_impl_nibbleCodes {H : Type} : DataW H := .agg [.lit (.int .i64 0), .lit (.int .i64 105), .lit (.int .i64 42), .lit (.int .i64 67), .lit (.int .i64 76), .lit (.int .i64 37), .lit (.int .i64 102), .lit (.int .i64 15), .lit (.int .i64 112), .lit (.int .i64 25), .lit (.int .i64 90), .lit (.int .i64 51), .lit (.int .i64 60), .lit (.int .i64 85), .lit (.int .i64 22), .lit (.int .i64 127)]
def laid_loop_example_wholenet_impl_ruleRows {H : Type} : DataW H := .agg [.lit (.int .i64 85), .lit (.int .i64 51), .lit (.int .i64 15)]

/-- 'laws.FnDecodeBytes': WHATEVER THE INPUT: true; the input reads as it did. -/
def fnDecodeBytesSpec : ChangeSpec := { name := "fnDecodeBytes", vars := ["loop.example/wholenet/impl.ruleRows", "loop.example/wholenet/impl.nibbleCodes"], fn := fun _ => fun
  | [d, g1, g2] => { results := [.lit (.bool true)], args := [d], vars := [g1, g2] }
  | _ => none }
def fnDecodeBytesRow : OpenClaim := { program := "ytpbiomlohgcjdaadoor", sum := "b19ff232bcf14a0e65f7030e7e7ad2cdc10f3f951db719e73770f5332e6d1d5f", func := "loop.example/wholenet/laws.FnDecodeBytes", spec := "fnDecodeBytes", named := ["loop.example/wholenet/impl.ruleRows", "loop.example/wholenet/impl.nibbleCodes"], apart := false, laid := [("loop.example/wholenet/impl.nibbleCodes", laid_loop_example_wholenet_impl_nibbleCodes), ("loop.example/wholenet/impl.ruleRows", laid_loop_example_wholenet_impl_ruleRows)] }
def FnDecodeBytesSaid : Prop := fnDecodeBytesRow.holds Tryd.pinned (OpenSpec.ofChange fnDecodeBytesSpec)

/-- ITS FALSE NEIGHBOUR: 'it returns false'. Refute it at one input. -/
def fnDecodeBytesWrong : ChangeSpec := { name := "fnDecodeBytes", vars := ["loop.example/wholenet/impl.ruleRows", "loop.example/wholenet/impl.nibbleCodes"], fn := fun _ => fun
  | [d, g1, g2] => { results := [.lit (.bool false)], args := [d], vars := [g1, g2] }
  | _ => none }
def FnDecodeBytesWrongFalsely : Prop := fnDecodeBytesRow.holds Tryd.pinned (OpenSpec.ofChange fnDecodeBytesWrong)

/- THE SECOND FORM. 'bulk': how many values and letters a reading holds, each counted each time it is reached (what is shared counts as often as it is met; a slice's spare places count too). A statement '..UptoSaid' is the law's where the arguments, and the package variables that the reading takes, are together of bulk at most 1048576: NARROWER than '..Said'. Prove '..Said' where nothing that the law and all that it calls make is longer than what came in: it says more and counts as full. Else prove '..UptoSaid'. A law counts once. -/
mutual
def uptoBulk {H : Type} : DataW H → Nat
  | .lit (.string bytes) => bytes.length + 1
  | .lit _ => 1
  | .nil => 1
  | .ptr d => uptoBulk d + 1
  | .slice elems spare => uptoBulkAll elems + uptoBulkAll spare + 1
  | .agg parts => uptoBulkAll parts + 1
  | .iface _ d => uptoBulk d + 1
  | .map entries => uptoBulkEntries entries + 1
  | .held _ => 1
def uptoBulkAll {H : Type} : List (DataW H) → Nat
  | [] => 0
  | d :: r => uptoBulk d + uptoBulkAll r
def uptoBulkEntries {H : Type} : List (Lit × DataW H) → Nat
  | [] => 0
  | x :: r => uptoBulkEntry x + uptoBulkEntries r
def uptoBulkEntry {H : Type} : Lit × DataW H → Nat
  | (.string bytes, d) => bytes.length + uptoBulk d + 1
  | (_, d) => uptoBulk d + 1
 end
def uptoSmall : (H : Type) → List (DataW H) → Bool := fun _ ds => decide (uptoBulkAll ds ≤ 1048576)
def OpenSpec.upto (s : _root_.Go.ChangeSpec) : _root_.Go.OpenSpec := { _root_.Go.OpenSpec.ofChange s with cond := some uptoSmall }

/-- 'laws.FnDecodeBytes', WHERE WHAT IT READS IS OF BULK AT MOST 1048576: true; the input reads as it did. -/
def fnDecodeBytesUptoRow : OpenClaim := { program := "ytpbiomlohgcjdaadoor", sum := "b19ff232bcf14a0e65f7030e7e7ad2cdc10f3f951db719e73770f5332e6d1d5f", func := "loop.example/wholenet/laws.FnDecodeBytes", spec := "fnDecodeBytes", named := ["loop.example/wholenet/impl.ruleRows", "loop.example/wholenet/impl.nibbleCodes"], apart := false, laid := [("loop.example/wholenet/impl.nibbleCodes", laid_loop_example_wholenet_impl_nibbleCodes), ("loop.example/wholenet/impl.ruleRows", laid_loop_example_wholenet_impl_ruleRows)], narrowed := true }
def FnDecodeBytesUptoSaid : Prop := fnDecodeBytesUptoRow.holds Tryd.pinned (OpenSpec.upto fnDecodeBytesSpec)

end Rows
end Go.Proofs.YtpbiomlohgcjdaaDoor

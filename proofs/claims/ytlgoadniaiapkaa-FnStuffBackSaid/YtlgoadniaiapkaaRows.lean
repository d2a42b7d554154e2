/-
  No cell of these rows narrows 'for every input' (looked for: loops, veiled, ifaces, maps, wideKeys, modest, calm, conditions, laid).
  DERIVED. THE GIVEN ROWS OF THIS SEAT. 4 by the template 'for every input the law returns true; each argument reads behind the call as it read before'; 0 by the template 'total and deterministic' (their statements: YtlgoadniaiapkaaTotals.lean).
  GIVEN WITH THE SEED: the statements are not yours to turn. If you find one false, say at which input.
  Laid BY PROGRAM, IN A SANDBOX (cutbox-rows.mjs): the forced cells as the released guide's own fill.sh prints them over the translation 8f11ddbebcccb1bb… (all of the seat's roots in one cut). By AI agents, Wed Nov 11 2026. No macro, syntax, notation, axiom, sorry.
-/
import Derived.Test.YtlgoadniaiapkaaChecked
import GoSem.Claim
import GoSem.ClaimJoined
import GoSem.ClaimMapViews
import Derived.JoinedTies
import Derived.KernelRfl
namespace Go.Proofs.Ytlgoadniaiapkaa
/- THE CELL 'sum', in the pinned program and in every row, IS THE sha256 OF THE DUMP (.gsa) THAT YtlgoadniaiapkaaProg.lean LOADS. Nothing in Lean hashes anything: it is a label: what it is worth is what the hold of that sum in a sandbox is worth. -/
noncomputable def Try.pinned : Pinned := { name := "ytlgoadniaiapkaa", sum := "8f11ddbebcccb1bb0d87265d669a3cdce79a4d51c6df1d34438a21c27177cd63", checked := Try.checked }
namespace Rows
def none {H : Type} : Left H := { results := [], args := [] }

/-- 'laws.FnStuffBack': WHATEVER THE INPUT: true; the input reads as it did. -/
def fnStuffBackSpec : ChangeSpec := { name := "fnStuffBack", fn := fun _ => fun
  | [d] => { results := [.lit (.bool true)], args := [d] }
  | _ => none }
def fnStuffBackRow : OpenClaim := { program := "ytlgoadniaiapkaa", sum := "8f11ddbebcccb1bb0d87265d669a3cdce79a4d51c6df1d34438a21c27177cd63", func := "loop.example/wholenet/laws.FnStuffBack", spec := "fnStuffBack", apart := false }
def FnStuffBackSaid : Prop := fnStuffBackRow.holds Try.pinned (OpenSpec.ofChange fnStuffBackSpec)

/-- ITS FALSE NEIGHBOUR: 'it returns false'. Refute it at one input. -/
def fnStuffBackWrong : ChangeSpec := { name := "fnStuffBack", fn := fun _ => fun
  | [d] => { results := [.lit (.bool false)], args := [d] }
  | _ => none }
def FnStuffBackWrongFalsely : Prop := fnStuffBackRow.holds Try.pinned (OpenSpec.ofChange fnStuffBackWrong)

/-- 'laws.FnUnstuff': WHATEVER THE INPUT: true; the input reads as it did. -/
def fnUnstuffSpec : ChangeSpec := { name := "fnUnstuff", fn := fun _ => fun
  | [d] => { results := [.lit (.bool true)], args := [d] }
  | _ => none }
def fnUnstuffRow : OpenClaim := { program := "ytlgoadniaiapkaa", sum := "8f11ddbebcccb1bb0d87265d669a3cdce79a4d51c6df1d34438a21c27177cd63", func := "loop.example/wholenet/laws.FnUnstuff", spec := "fnUnstuff", apart := false }
def FnUnstuffSaid : Prop := fnUnstuffRow.holds Try.pinned (OpenSpec.ofChange fnUnstuffSpec)

/-- ITS FALSE NEIGHBOUR: 'it returns false'. Refute it at one input. -/
def fnUnstuffWrong : ChangeSpec := { name := "fnUnstuff", fn := fun _ => fun
  | [d] => { results := [.lit (.bool false)], args := [d] }
  | _ => none }
def FnUnstuffWrongFalsely : Prop := fnUnstuffRow.holds Try.pinned (OpenSpec.ofChange fnUnstuffWrong)

/-- 'laws.FnExactStuffBytes': WHATEVER THE INPUT: true; the input reads as it did. -/
def fnExactStuffBytesSpec : ChangeSpec := { name := "fnExactStuffBytes", fn := fun _ => fun
  | [d] => { results := [.lit (.bool true)], args := [d] }
  | _ => none }
def fnExactStuffBytesRow : OpenClaim := { program := "ytlgoadniaiapkaa", sum := "8f11ddbebcccb1bb0d87265d669a3cdce79a4d51c6df1d34438a21c27177cd63", func := "loop.example/wholenet/laws.FnExactStuffBytes", spec := "fnExactStuffBytes", apart := false }
def FnExactStuffBytesSaid : Prop := fnExactStuffBytesRow.holds Try.pinned (OpenSpec.ofChange fnExactStuffBytesSpec)

/-- ITS FALSE NEIGHBOUR: 'it returns false'. Refute it at one input. -/
def fnExactStuffBytesWrong : ChangeSpec := { name := "fnExactStuffBytes", fn := fun _ => fun
  | [d] => { results := [.lit (.bool false)], args := [d] }
  | _ => none }
def FnExactStuffBytesWrongFalsely : Prop := fnExactStuffBytesRow.holds Try.pinned (OpenSpec.ofChange fnExactStuffBytesWrong)

/-- 'laws.FnExactUnstuffBytes': WHATEVER THE INPUT: true; the input reads as it did. -/
def fnExactUnstuffBytesSpec : ChangeSpec := { name := "fnExactUnstuffBytes", fn := fun _ => fun
  | [d] => { results := [.lit (.bool true)], args := [d] }
  | _ => none }
def fnExactUnstuffBytesRow : OpenClaim := { program := "ytlgoadniaiapkaa", sum := "8f11ddbebcccb1bb0d87265d669a3cdce79a4d51c6df1d34438a21c27177cd63", func := "loop.example/wholenet/laws.FnExactUnstuffBytes", spec := "fnExactUnstuffBytes", apart := false }
def FnExactUnstuffBytesSaid : Prop := fnExactUnstuffBytesRow.holds Try.pinned (OpenSpec.ofChange fnExactUnstuffBytesSpec)

/-- ITS FALSE NEIGHBOUR: 'it returns false'. Refute it at one input. -/
def fnExactUnstuffBytesWrong : ChangeSpec := { name := "fnExactUnstuffBytes", fn := fun _ => fun
  | [d] => { results := [.lit (.bool false)], args := [d] }
  | _ => none }
def FnExactUnstuffBytesWrongFalsely : Prop := fnExactUnstuffBytesRow.holds Try.pinned (OpenSpec.ofChange fnExactUnstuffBytesWrong)

/- THE SECOND FORM. 'bulk': how many values and letters a reading holds, each counted each time it is reached (what is shared counts as often as it is met; a slice's spare places count too). A statement '..UptoSaid' is the law's where the arguments, and the package variables that the reading takes, are together of bulk at most 1048576: NARROWER than '..Said'. Prove '..Said' where nothing that the law and all that it calls make is longer than what came in: it says more and counts as full. Else prove '..UptoSaid'. A law counts once. -/
mutual
def uptoBulk {H : Type} : DataW H → Nat
  | .lit (.string bytes) => bytes.length + 1
  | .lit _ => 1
  | .nil => 1
  | .ptr d => uptoBulk d + 1
  | .slice elems spare => uptoBulkAll elems + uptoBulkAll spare + 1
  | .agg parts => uptoBulkAll parts + 1
  | .iface _ d => uptoBulk d + 1
  | .map entries => uptoBulkEntries entries + 1
  | .held _ => 1
def uptoBulkAll {H : Type} : List (DataW H) → Nat
  | [] => 0
  | d :: r => uptoBulk d + uptoBulkAll r
def uptoBulkEntries {H : Type} : List (Lit × DataW H) → Nat
  | [] => 0
  | x :: r => uptoBulkEntry x + uptoBulkEntries r
def uptoBulkEntry {H : Type} : Lit × DataW H → Nat
  | (.string bytes, d) => bytes.length + uptoBulk d + 1
  | (_, d) => uptoBulk d + 1
 end
def uptoSmall : (H : Type) → List (DataW H) → Bool := fun _ ds => decide (uptoBulkAll ds ≤ 1048576)
def OpenSpec.upto (s : _root_.Go.ChangeSpec) : _root_.Go.OpenSpec := { _root_.Go.OpenSpec.ofChange s with cond := some uptoSmall }

/-- 'laws.FnStuffBack', WHERE WHAT IT READS IS OF BULK AT MOST 1048576: true; the input reads as it did. -/
def fnStuffBackUptoRow : OpenClaim := { program := "ytlgoadniaiapkaa", sum := "8f11ddbebcccb1bb0d87265d669a3cdce79a4d51c6df1d34438a21c27177cd63", func := "loop.example/wholenet/laws.FnStuffBack", spec := "fnStuffBack", apart := false, narrowed := true }
def FnStuffBackUptoSaid : Prop := fnStuffBackUptoRow.holds Try.pinned (OpenSpec.upto fnStuffBackSpec)

/-- 'laws.FnUnstuff', WHERE WHAT IT READS IS OF BULK AT MOST 1048576: true; the input reads as it did. -/
def fnUnstuffUptoRow : OpenClaim := { program := "ytlgoadniaiapkaa", sum := "8f11ddbebcccb1bb0d87265d669a3cdce79a4d51c6df1d34438a21c27177cd63", func := "loop.example/wholenet/laws.FnUnstuff", spec := "fnUnstuff", apart := false, narrowed := true }
def FnUnstuffUptoSaid : Prop := fnUnstuffUptoRow.holds Try.pinned (OpenSpec.upto fnUnstuffSpec)

/-- 'laws.FnExactStuffBytes', WHERE WHAT IT READS IS OF BULK AT MOST 1048576: true; the input reads as it did. -/
def fnExactStuffBytesUptoRow : OpenClaim := { program := "ytlgoadniaiapkaa", sum := "8f11ddbebcccb1bb0d87265d669a3cdce79a4d51c6df1d34438a21c27177cd63", func := "loop.example/wholenet/laws.FnExactStuffBytes", spec := "fnExactStuffBytes", apart := false, narrowed := true }
def FnExactStuffBytesUptoSaid : Prop := fnExactStuffBytesUptoRow.holds Try.pinned (OpenSpec.upto fnExactStuffBytesSpec)

/-- 'laws.FnExactUnstuffBytes', WHERE WHAT IT READS IS OF BULK AT MOST 1048576: true; the input reads as it did. -/
def fnExactUnstuffBytesUptoRow : OpenClaim := { program := "ytlgoadniaiapkaa", sum := "8f11ddbebcccb1bb0d87265d669a3cdce79a4d51c6df1d34438a21c27177cd63", func := "loop.example/wholenet/laws.FnExactUnstuffBytes", spec := "fnExactUnstuffBytes", apart := false, narrowed := true }
def FnExactUnstuffBytesUptoSaid : Prop := fnExactUnstuffBytesUptoRow.holds Try.pinned (OpenSpec.upto fnExactUnstuffBytesSpec)

end Rows
end Go.Proofs.Ytlgoadniaiapkaa

/-
  No cell of these rows narrows 'for every input' (looked for: loops, veiled, ifaces, maps, wideKeys, modest, calm, conditions, laid).
  DERIVED. THE GIVEN ROWS OF THIS SEAT. 13 by the template 'for every input the law returns true; each argument reads behind the call as it read before'; 0 by the template 'total and deterministic' (their statements: YtnloejcfakcpfaaTotals.lean).
  GIVEN WITH THE SEED: the statements are not yours to turn. If you find one false, say at which input.
  Laid BY PROGRAM, IN A SANDBOX (cutbox-rows.mjs): the forced cells as the released guide's own fill.sh prints them over the translation 45a41254deae497e… (all of the seat's roots in one cut). By AI agents, Wed Nov 11 2026. No macro, syntax, notation, axiom, sorry.
-/
import Derived.Test.YtnloejcfakcpfaaChecked
import GoSem.Claim
import GoSem.ClaimJoined
import GoSem.ClaimMapViews
import Derived.JoinedTies
import Derived.KernelRfl
namespace Go.Proofs.Ytnloejcfakcpfaa
/- THE CELL 'sum', in the pinned program and in every row, IS THE sha256 OF THE DUMP (.gsa) THAT YtnloejcfakcpfaaProg.lean LOADS. Nothing in Lean hashes anything: it is a label: what it is worth is what the hold of that sum in a sandbox is worth. -/
noncomputable def Try.pinned : Pinned := { name := "ytnloejcfakcpfaa", sum := "45a41254deae497edcbf713f2aa2774187a2022f63ccee52b55ab5459a313a5c", checked := Try.checked }
namespace Rows
def none {H : Type} : Left H := { results := [], args := [] }

/-- 'laws.FnConforms': WHATEVER THE INPUT: true; the input reads as it did. -/
def fnConformsSpec : ChangeSpec := { name := "fnConforms", fn := fun _ => fun
  | [d] => { results := [.lit (.bool true)], args := [d] }
  | _ => none }
def fnConformsRow : OpenClaim := { program := "ytnloejcfakcpfaa", sum := "45a41254deae497edcbf713f2aa2774187a2022f63ccee52b55ab5459a313a5c", func := "loop.example/wholenet/laws.FnConforms", spec := "fnConforms", unfollowed := true, recurses := true, apart := false }
def FnConformsSaid : Prop := fnConformsRow.holds Try.pinned (OpenSpec.ofChange fnConformsSpec)

/-- ITS FALSE NEIGHBOUR: 'it returns false'. Refute it at one input. -/
def fnConformsWrong : ChangeSpec := { name := "fnConforms", fn := fun _ => fun
  | [d] => { results := [.lit (.bool false)], args := [d] }
  | _ => none }
def FnConformsWrongFalsely : Prop := fnConformsRow.holds Try.pinned (OpenSpec.ofChange fnConformsWrong)

/-- 'laws.FnPolice': WHATEVER THE INPUT: true; the input reads as it did. -/
def fnPoliceSpec : ChangeSpec := { name := "fnPolice", fn := fun _ => fun
  | [d] => { results := [.lit (.bool true)], args := [d] }
  | _ => none }
def fnPoliceRow : OpenClaim := { program := "ytnloejcfakcpfaa", sum := "45a41254deae497edcbf713f2aa2774187a2022f63ccee52b55ab5459a313a5c", func := "loop.example/wholenet/laws.FnPolice", spec := "fnPolice", unfollowed := true, recurses := true, apart := false }
def FnPoliceSaid : Prop := fnPoliceRow.holds Try.pinned (OpenSpec.ofChange fnPoliceSpec)

/-- ITS FALSE NEIGHBOUR: 'it returns false'. Refute it at one input. -/
def fnPoliceWrong : ChangeSpec := { name := "fnPolice", fn := fun _ => fun
  | [d] => { results := [.lit (.bool false)], args := [d] }
  | _ => none }
def FnPoliceWrongFalsely : Prop := fnPoliceRow.holds Try.pinned (OpenSpec.ofChange fnPoliceWrong)

/-- 'laws.FnShape': WHATEVER THE INPUT: true; the input reads as it did. -/
def fnShapeSpec : ChangeSpec := { name := "fnShape", fn := fun _ => fun
  | [d] => { results := [.lit (.bool true)], args := [d] }
  | _ => none }
def fnShapeRow : OpenClaim := { program := "ytnloejcfakcpfaa", sum := "45a41254deae497edcbf713f2aa2774187a2022f63ccee52b55ab5459a313a5c", func := "loop.example/wholenet/laws.FnShape", spec := "fnShape", unfollowed := true, recurses := true, apart := false }
def FnShapeSaid : Prop := fnShapeRow.holds Try.pinned (OpenSpec.ofChange fnShapeSpec)

/-- ITS FALSE NEIGHBOUR: 'it returns false'. Refute it at one input. -/
def fnShapeWrong : ChangeSpec := { name := "fnShape", fn := fun _ => fun
  | [d] => { results := [.lit (.bool false)], args := [d] }
  | _ => none }
def FnShapeWrongFalsely : Prop := fnShapeRow.holds Try.pinned (OpenSpec.ofChange fnShapeWrong)

/-- 'laws.FnShapeFirst': WHATEVER THE INPUT: true; the input reads as it did. -/
def fnShapeFirstSpec : ChangeSpec := { name := "fnShapeFirst", fn := fun _ => fun
  | [d] => { results := [.lit (.bool true)], args := [d] }
  | _ => none }
def fnShapeFirstRow : OpenClaim := { program := "ytnloejcfakcpfaa", sum := "45a41254deae497edcbf713f2aa2774187a2022f63ccee52b55ab5459a313a5c", func := "loop.example/wholenet/laws.FnShapeFirst", spec := "fnShapeFirst", unfollowed := true, recurses := true, apart := false }
def FnShapeFirstSaid : Prop := fnShapeFirstRow.holds Try.pinned (OpenSpec.ofChange fnShapeFirstSpec)

/-- ITS FALSE NEIGHBOUR: 'it returns false'. Refute it at one input. -/
def fnShapeFirstWrong : ChangeSpec := { name := "fnShapeFirst", fn := fun _ => fun
  | [d] => { results := [.lit (.bool false)], args := [d] }
  | _ => none }
def FnShapeFirstWrongFalsely : Prop := fnShapeFirstRow.holds Try.pinned (OpenSpec.ofChange fnShapeFirstWrong)

/-- 'laws.FnShapeAgain': WHATEVER THE INPUT: true; the input reads as it did. -/
def fnShapeAgainSpec : ChangeSpec := { name := "fnShapeAgain", fn := fun _ => fun
  | [d] => { results := [.lit (.bool true)], args := [d] }
  | _ => none }
def fnShapeAgainRow : OpenClaim := { program := "ytnloejcfakcpfaa", sum := "45a41254deae497edcbf713f2aa2774187a2022f63ccee52b55ab5459a313a5c", func := "loop.example/wholenet/laws.FnShapeAgain", spec := "fnShapeAgain", unfollowed := true, recurses := true, apart := false }
def FnShapeAgainSaid : Prop := fnShapeAgainRow.holds Try.pinned (OpenSpec.ofChange fnShapeAgainSpec)

/-- ITS FALSE NEIGHBOUR: 'it returns false'. Refute it at one input. -/
def fnShapeAgainWrong : ChangeSpec := { name := "fnShapeAgain", fn := fun _ => fun
  | [d] => { results := [.lit (.bool false)], args := [d] }
  | _ => none }
def FnShapeAgainWrongFalsely : Prop := fnShapeAgainRow.holds Try.pinned (OpenSpec.ofChange fnShapeAgainWrong)

/-- 'laws.FnTokens': WHATEVER THE INPUT: true; the input reads as it did. -/
def fnTokensSpec : ChangeSpec := { name := "fnTokens", fn := fun _ => fun
  | [d] => { results := [.lit (.bool true)], args := [d] }
  | _ => none }
def fnTokensRow : OpenClaim := { program := "ytnloejcfakcpfaa", sum := "45a41254deae497edcbf713f2aa2774187a2022f63ccee52b55ab5459a313a5c", func := "loop.example/wholenet/laws.FnTokens", spec := "fnTokens", unfollowed := true, recurses := true, apart := false }
def FnTokensSaid : Prop := fnTokensRow.holds Try.pinned (OpenSpec.ofChange fnTokensSpec)

/-- ITS FALSE NEIGHBOUR: 'it returns false'. Refute it at one input. -/
def fnTokensWrong : ChangeSpec := { name := "fnTokens", fn := fun _ => fun
  | [d] => { results := [.lit (.bool false)], args := [d] }
  | _ => none }
def FnTokensWrongFalsely : Prop := fnTokensRow.holds Try.pinned (OpenSpec.ofChange fnTokensWrong)

/-- 'laws.FnLeastBurst': WHATEVER THE INPUT: true; the input reads as it did. -/
def fnLeastBurstSpec : ChangeSpec := { name := "fnLeastBurst", fn := fun _ => fun
  | [d] => { results := [.lit (.bool true)], args := [d] }
  | _ => none }
def fnLeastBurstRow : OpenClaim := { program := "ytnloejcfakcpfaa", sum := "45a41254deae497edcbf713f2aa2774187a2022f63ccee52b55ab5459a313a5c", func := "loop.example/wholenet/laws.FnLeastBurst", spec := "fnLeastBurst", unfollowed := true, recurses := true, apart := false }
def FnLeastBurstSaid : Prop := fnLeastBurstRow.holds Try.pinned (OpenSpec.ofChange fnLeastBurstSpec)

/-- ITS FALSE NEIGHBOUR: 'it returns false'. Refute it at one input. -/
def fnLeastBurstWrong : ChangeSpec := { name := "fnLeastBurst", fn := fun _ => fun
  | [d] => { results := [.lit (.bool false)], args := [d] }
  | _ => none }
def FnLeastBurstWrongFalsely : Prop := fnLeastBurstRow.holds Try.pinned (OpenSpec.ofChange fnLeastBurstWrong)

/-- 'laws.FnExactPulsesValid': WHATEVER THE INPUT: true; the input reads as it did. -/
def fnExactPulsesValidSpec : ChangeSpec := { name := "fnExactPulsesValid", fn := fun _ => fun
  | [d] => { results := [.lit (.bool true)], args := [d] }
  | _ => none }
def fnExactPulsesValidRow : OpenClaim := { program := "ytnloejcfakcpfaa", sum := "45a41254deae497edcbf713f2aa2774187a2022f63ccee52b55ab5459a313a5c", func := "loop.example/wholenet/laws.FnExactPulsesValid", spec := "fnExactPulsesValid", unfollowed := true, recurses := true, apart := false }
def FnExactPulsesValidSaid : Prop := fnExactPulsesValidRow.holds Try.pinned (OpenSpec.ofChange fnExactPulsesValidSpec)

/-- ITS FALSE NEIGHBOUR: 'it returns false'. Refute it at one input. -/
def fnExactPulsesValidWrong : ChangeSpec := { name := "fnExactPulsesValid", fn := fun _ => fun
  | [d] => { results := [.lit (.bool false)], args := [d] }
  | _ => none }
def FnExactPulsesValidWrongFalsely : Prop := fnExactPulsesValidRow.holds Try.pinned (OpenSpec.ofChange fnExactPulsesValidWrong)

/-- 'laws.FnExactConforms': WHATEVER THE INPUT: true; the input reads as it did. -/
def fnExactConformsSpec : ChangeSpec := { name := "fnExactConforms", fn := fun _ => fun
  | [d1, d2, d3] => { results := [.lit (.bool true)], args := [d1, d2, d3] }
  | _ => none }
def fnExactConformsRow : OpenClaim := { program := "ytnloejcfakcpfaa", sum := "45a41254deae497edcbf713f2aa2774187a2022f63ccee52b55ab5459a313a5c", func := "loop.example/wholenet/laws.FnExactConforms", spec := "fnExactConforms", unfollowed := true, recurses := true, apart := false }
def FnExactConformsSaid : Prop := fnExactConformsRow.holds Try.pinned (OpenSpec.ofChange fnExactConformsSpec)

/-- ITS FALSE NEIGHBOUR: 'it returns false'. Refute it at one input. -/
def fnExactConformsWrong : ChangeSpec := { name := "fnExactConforms", fn := fun _ => fun
  | [d1, d2, d3] => { results := [.lit (.bool false)], args := [d1, d2, d3] }
  | _ => none }
def FnExactConformsWrongFalsely : Prop := fnExactConformsRow.holds Try.pinned (OpenSpec.ofChange fnExactConformsWrong)

/-- 'laws.FnExactPolicePulses': WHATEVER THE INPUT: true; the input reads as it did. -/
def fnExactPolicePulsesSpec : ChangeSpec := { name := "fnExactPolicePulses", fn := fun _ => fun
  | [d1, d2, d3] => { results := [.lit (.bool true)], args := [d1, d2, d3] }
  | _ => none }
def fnExactPolicePulsesRow : OpenClaim := { program := "ytnloejcfakcpfaa", sum := "45a41254deae497edcbf713f2aa2774187a2022f63ccee52b55ab5459a313a5c", func := "loop.example/wholenet/laws.FnExactPolicePulses", spec := "fnExactPolicePulses", unfollowed := true, recurses := true, apart := false }
def FnExactPolicePulsesSaid : Prop := fnExactPolicePulsesRow.holds Try.pinned (OpenSpec.ofChange fnExactPolicePulsesSpec)

/-- ITS FALSE NEIGHBOUR: 'it returns false'. Refute it at one input. -/
def fnExactPolicePulsesWrong : ChangeSpec := { name := "fnExactPolicePulses", fn := fun _ => fun
  | [d1, d2, d3] => { results := [.lit (.bool false)], args := [d1, d2, d3] }
  | _ => none }
def FnExactPolicePulsesWrongFalsely : Prop := fnExactPolicePulsesRow.holds Try.pinned (OpenSpec.ofChange fnExactPolicePulsesWrong)

/-- 'laws.FnExactShapePulses': WHATEVER THE INPUT: true; the input reads as it did. -/
def fnExactShapePulsesSpec : ChangeSpec := { name := "fnExactShapePulses", fn := fun _ => fun
  | [d1, d2, d3] => { results := [.lit (.bool true)], args := [d1, d2, d3] }
  | _ => none }
def fnExactShapePulsesRow : OpenClaim := { program := "ytnloejcfakcpfaa", sum := "45a41254deae497edcbf713f2aa2774187a2022f63ccee52b55ab5459a313a5c", func := "loop.example/wholenet/laws.FnExactShapePulses", spec := "fnExactShapePulses", unfollowed := true, recurses := true, apart := false }
def FnExactShapePulsesSaid : Prop := fnExactShapePulsesRow.holds Try.pinned (OpenSpec.ofChange fnExactShapePulsesSpec)

/-- ITS FALSE NEIGHBOUR: 'it returns false'. Refute it at one input. -/
def fnExactShapePulsesWrong : ChangeSpec := { name := "fnExactShapePulses", fn := fun _ => fun
  | [d1, d2, d3] => { results := [.lit (.bool false)], args := [d1, d2, d3] }
  | _ => none }
def FnExactShapePulsesWrongFalsely : Prop := fnExactShapePulsesRow.holds Try.pinned (OpenSpec.ofChange fnExactShapePulsesWrong)

/-- 'laws.FnExactTokensAt': WHATEVER THE INPUT: true; the input reads as it did. -/
def fnExactTokensAtSpec : ChangeSpec := { name := "fnExactTokensAt", fn := fun _ => fun
  | [d1, d2, d3, d4] => { results := [.lit (.bool true)], args := [d1, d2, d3, d4] }
  | _ => none }
def fnExactTokensAtRow : OpenClaim := { program := "ytnloejcfakcpfaa", sum := "45a41254deae497edcbf713f2aa2774187a2022f63ccee52b55ab5459a313a5c", func := "loop.example/wholenet/laws.FnExactTokensAt", spec := "fnExactTokensAt", unfollowed := true, recurses := true, apart := false }
def FnExactTokensAtSaid : Prop := fnExactTokensAtRow.holds Try.pinned (OpenSpec.ofChange fnExactTokensAtSpec)

/-- ITS FALSE NEIGHBOUR: 'it returns false'. Refute it at one input. -/
def fnExactTokensAtWrong : ChangeSpec := { name := "fnExactTokensAt", fn := fun _ => fun
  | [d1, d2, d3, d4] => { results := [.lit (.bool false)], args := [d1, d2, d3, d4] }
  | _ => none }
def FnExactTokensAtWrongFalsely : Prop := fnExactTokensAtRow.holds Try.pinned (OpenSpec.ofChange fnExactTokensAtWrong)

/-- 'laws.FnExactLeastBurst': WHATEVER THE INPUT: true; the input reads as it did. -/
def fnExactLeastBurstSpec : ChangeSpec := { name := "fnExactLeastBurst", fn := fun _ => fun
  | [d1, d2] => { results := [.lit (.bool true)], args := [d1, d2] }
  | _ => none }
def fnExactLeastBurstRow : OpenClaim := { program := "ytnloejcfakcpfaa", sum := "45a41254deae497edcbf713f2aa2774187a2022f63ccee52b55ab5459a313a5c", func := "loop.example/wholenet/laws.FnExactLeastBurst", spec := "fnExactLeastBurst", unfollowed := true, recurses := true, apart := false }
def FnExactLeastBurstSaid : Prop := fnExactLeastBurstRow.holds Try.pinned (OpenSpec.ofChange fnExactLeastBurstSpec)

/-- ITS FALSE NEIGHBOUR: 'it returns false'. Refute it at one input. -/
def fnExactLeastBurstWrong : ChangeSpec := { name := "fnExactLeastBurst", fn := fun _ => fun
  | [d1, d2] => { results := [.lit (.bool false)], args := [d1, d2] }
  | _ => none }
def FnExactLeastBurstWrongFalsely : Prop := fnExactLeastBurstRow.holds Try.pinned (OpenSpec.ofChange fnExactLeastBurstWrong)

/- THE SECOND FORM. 'bulk': how many values and letters a reading holds, each counted each time it is reached (what is shared counts as often as it is met; a slice's spare places count too). A statement '..UptoSaid' is the law's where the arguments, and the package variables that the reading takes, are together of bulk at most 1048576: NARROWER than '..Said'. Prove '..Said' where nothing that the law and all that it calls make is longer than what came in: it says more and counts as full. Else prove '..UptoSaid'. A law counts once. -/
mutual
def uptoBulk {H : Type} : DataW H → Nat
  | .lit (.string bytes) => bytes.length + 1
  | .lit _ => 1
  | .nil => 1
  | .ptr d => uptoBulk d + 1
  | .slice elems spare => uptoBulkAll elems + uptoBulkAll spare + 1
  | .agg parts => uptoBulkAll parts + 1
  | .iface _ d => uptoBulk d + 1
  | .map entries => uptoBulkEntries entries + 1
  | .held _ => 1
def uptoBulkAll {H : Type} : List (DataW H) → Nat
  | [] => 0
  | d :: r => uptoBulk d + uptoBulkAll r
def uptoBulkEntries {H : Type} : List (Lit × DataW H) → Nat
  | [] => 0
  | x :: r => uptoBulkEntry x + uptoBulkEntries r
def uptoBulkEntry {H : Type} : Lit × DataW H → Nat
  | (.string bytes, d) => bytes.length + uptoBulk d + 1
  | (_, d) => uptoBulk d + 1
 end
def uptoSmall : (H : Type) → List (DataW H) → Bool := fun _ ds => decide (uptoBulkAll ds ≤ 1048576)
def OpenSpec.upto (s : _root_.Go.ChangeSpec) : _root_.Go.OpenSpec := { _root_.Go.OpenSpec.ofChange s with cond := some uptoSmall }

/-- 'laws.FnConforms', WHERE WHAT IT READS IS OF BULK AT MOST 1048576: true; the input reads as it did. -/
def fnConformsUptoRow : OpenClaim := { program := "ytnloejcfakcpfaa", sum := "45a41254deae497edcbf713f2aa2774187a2022f63ccee52b55ab5459a313a5c", func := "loop.example/wholenet/laws.FnConforms", spec := "fnConforms", unfollowed := true, recurses := true, apart := false, narrowed := true }
def FnConformsUptoSaid : Prop := fnConformsUptoRow.holds Try.pinned (OpenSpec.upto fnConformsSpec)

/-- 'laws.FnPolice', WHERE WHAT IT READS IS OF BULK AT MOST 1048576: true; the input reads as it did. -/
def fnPoliceUptoRow : OpenClaim := { program := "ytnloejcfakcpfaa", sum := "45a41254deae497edcbf713f2aa2774187a2022f63ccee52b55ab5459a313a5c", func := "loop.example/wholenet/laws.FnPolice", spec := "fnPolice", unfollowed := true, recurses := true, apart := false, narrowed := true }
def FnPoliceUptoSaid : Prop := fnPoliceUptoRow.holds Try.pinned (OpenSpec.upto fnPoliceSpec)

/-- 'laws.FnShape', WHERE WHAT IT READS IS OF BULK AT MOST 1048576: true; the input reads as it did. -/
def fnShapeUptoRow : OpenClaim := { program := "ytnloejcfakcpfaa", sum := "45a41254deae497edcbf713f2aa2774187a2022f63ccee52b55ab5459a313a5c", func := "loop.example/wholenet/laws.FnShape", spec := "fnShape", unfollowed := true, recurses := true, apart := false, narrowed := true }
def FnShapeUptoSaid : Prop := fnShapeUptoRow.holds Try.pinned (OpenSpec.upto fnShapeSpec)

/-- 'laws.FnShapeFirst', WHERE WHAT IT READS IS OF BULK AT MOST 1048576: true; the input reads as it did. -/
def fnShapeFirstUptoRow : OpenClaim := { program := "ytnloejcfakcpfaa", sum := "45a41254deae497edcbf713f2aa2774187a2022f63ccee52b55ab5459a313a5c", func := "loop.example/wholenet/laws.FnShapeFirst", spec := "fnShapeFirst", unfollowed := true, recurses := true, apart := false, narrowed := true }
def FnShapeFirstUptoSaid : Prop := fnShapeFirstUptoRow.holds Try.pinned (OpenSpec.upto fnShapeFirstSpec)

/-- 'laws.FnShapeAgain', WHERE WHAT IT READS IS OF BULK AT MOST 1048576: true; the input reads as it did. -/
def fnShapeAgainUptoRow : OpenClaim := { program := "ytnloejcfakcpfaa", sum := "45a41254deae497edcbf713f2aa2774187a2022f63ccee52b55ab5459a313a5c", func := "loop.example/wholenet/laws.FnShapeAgain", spec := "fnShapeAgain", unfollowed := true, recurses := true, apart := false, narrowed := true }
def FnShapeAgainUptoSaid : Prop := fnShapeAgainUptoRow.holds Try.pinned (OpenSpec.upto fnShapeAgainSpec)

/-- 'laws.FnTokens', WHERE WHAT IT READS IS OF BULK AT MOST 1048576: true; the input reads as it did. -/
def fnTokensUptoRow : OpenClaim := { program := "ytnloejcfakcpfaa", sum := "45a41254deae497edcbf713f2aa2774187a2022f63ccee52b55ab5459a313a5c", func := "loop.example/wholenet/laws.FnTokens", spec := "fnTokens", unfollowed := true, recurses := true, apart := false, narrowed := true }
def FnTokensUptoSaid : Prop := fnTokensUptoRow.holds Try.pinned (OpenSpec.upto fnTokensSpec)

/-- 'laws.FnLeastBurst', WHERE WHAT IT READS IS OF BULK AT MOST 1048576: true; the input reads as it did. -/
def fnLeastBurstUptoRow : OpenClaim := { program := "ytnloejcfakcpfaa", sum := "45a41254deae497edcbf713f2aa2774187a2022f63ccee52b55ab5459a313a5c", func := "loop.example/wholenet/laws.FnLeastBurst", spec := "fnLeastBurst", unfollowed := true, recurses := true, apart := false, narrowed := true }
def FnLeastBurstUptoSaid : Prop := fnLeastBurstUptoRow.holds Try.pinned (OpenSpec.upto fnLeastBurstSpec)

/-- 'laws.FnExactPulsesValid', WHERE WHAT IT READS IS OF BULK AT MOST 1048576: true; the input reads as it did. -/
def fnExactPulsesValidUptoRow : OpenClaim := { program := "ytnloejcfakcpfaa", sum := "45a41254deae497edcbf713f2aa2774187a2022f63ccee52b55ab5459a313a5c", func := "loop.example/wholenet/laws.FnExactPulsesValid", spec := "fnExactPulsesValid", unfollowed := true, recurses := true, apart := false, narrowed := true }
def FnExactPulsesValidUptoSaid : Prop := fnExactPulsesValidUptoRow.holds Try.pinned (OpenSpec.upto fnExactPulsesValidSpec)

/-- 'laws.FnExactConforms', WHERE WHAT IT READS IS OF BULK AT MOST 1048576: true; the input reads as it did. -/
def fnExactConformsUptoRow : OpenClaim := { program := "ytnloejcfakcpfaa", sum := "45a41254deae497edcbf713f2aa2774187a2022f63ccee52b55ab5459a313a5c", func := "loop.example/wholenet/laws.FnExactConforms", spec := "fnExactConforms", unfollowed := true, recurses := true, apart := false, narrowed := true }
def FnExactConformsUptoSaid : Prop := fnExactConformsUptoRow.holds Try.pinned (OpenSpec.upto fnExactConformsSpec)

/-- 'laws.FnExactPolicePulses', WHERE WHAT IT READS IS OF BULK AT MOST 1048576: true; the input reads as it did. -/
def fnExactPolicePulsesUptoRow : OpenClaim := { program := "ytnloejcfakcpfaa", sum := "45a41254deae497edcbf713f2aa2774187a2022f63ccee52b55ab5459a313a5c", func := "loop.example/wholenet/laws.FnExactPolicePulses", spec := "fnExactPolicePulses", unfollowed := true, recurses := true, apart := false, narrowed := true }
def FnExactPolicePulsesUptoSaid : Prop := fnExactPolicePulsesUptoRow.holds Try.pinned (OpenSpec.upto fnExactPolicePulsesSpec)

/-- 'laws.FnExactShapePulses', WHERE WHAT IT READS IS OF BULK AT MOST 1048576: true; the input reads as it did. -/
def fnExactShapePulsesUptoRow : OpenClaim := { program := "ytnloejcfakcpfaa", sum := "45a41254deae497edcbf713f2aa2774187a2022f63ccee52b55ab5459a313a5c", func := "loop.example/wholenet/laws.FnExactShapePulses", spec := "fnExactShapePulses", unfollowed := true, recurses := true, apart := false, narrowed := true }
def FnExactShapePulsesUptoSaid : Prop := fnExactShapePulsesUptoRow.holds Try.pinned (OpenSpec.upto fnExactShapePulsesSpec)

/-- 'laws.FnExactTokensAt', WHERE WHAT IT READS IS OF BULK AT MOST 1048576: true; the input reads as it did. -/
def fnExactTokensAtUptoRow : OpenClaim := { program := "ytnloejcfakcpfaa", sum := "45a41254deae497edcbf713f2aa2774187a2022f63ccee52b55ab5459a313a5c", func := "loop.example/wholenet/laws.FnExactTokensAt", spec := "fnExactTokensAt", unfollowed := true, recurses := true, apart := false, narrowed := true }
def FnExactTokensAtUptoSaid : Prop := fnExactTokensAtUptoRow.holds Try.pinned (OpenSpec.upto fnExactTokensAtSpec)

/-- 'laws.FnExactLeastBurst', WHERE WHAT IT READS IS OF BULK AT MOST 1048576: true; the input reads as it did. -/
def fnExactLeastBurstUptoRow : OpenClaim := { program := "ytnloejcfakcpfaa", sum := "45a41254deae497edcbf713f2aa2774187a2022f63ccee52b55ab5459a313a5c", func := "loop.example/wholenet/laws.FnExactLeastBurst", spec := "fnExactLeastBurst", unfollowed := true, recurses := true, apart := false, narrowed := true }
def FnExactLeastBurstUptoSaid : Prop := fnExactLeastBurstUptoRow.holds Try.pinned (OpenSpec.upto fnExactLeastBurstSpec)

end Rows
end Go.Proofs.Ytnloejcfakcpfaa

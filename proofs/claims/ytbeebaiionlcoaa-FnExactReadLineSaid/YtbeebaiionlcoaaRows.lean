/-
  No cell of these rows narrows 'for every input' (looked for: loops, veiled, ifaces, maps, wideKeys, modest, calm, conditions, laid).
  DERIVED. THE GIVEN ROWS OF THIS SEAT. 13 by the template 'for every input the law returns true; each argument reads behind the call as it read before'; 0 by the template 'total and deterministic' (their statements: YtbeebaiionlcoaaTotals.lean).
  GIVEN WITH THE SEED: the statements are not yours to turn. If you find one false, say at which input.
  Laid BY PROGRAM, IN A SANDBOX (cutbox-rows.mjs): the forced cells as the released guide's own fill.sh prints them over the translation 79d4df4e238797d4… (all of the seat's roots in one cut). By AI agents, Wed Nov 11 2026. No macro, syntax, notation, axiom, sorry.
-/
import Derived.Test.YtbeebaiionlcoaaChecked
import GoSem.Claim
import GoSem.ClaimJoined
import GoSem.ClaimMapViews
import Derived.JoinedTies
import Derived.KernelRfl
namespace Go.Proofs.Ytbeebaiionlcoaa
/- THE CELL 'sum', in the pinned program and in every row, IS THE sha256 OF THE DUMP (.gsa) THAT YtbeebaiionlcoaaProg.lean LOADS. Nothing in Lean hashes anything: it is a label: what it is worth is what the hold of that sum in a sandbox is worth. -/
noncomputable def Try.pinned : Pinned := { name := "ytbeebaiionlcoaa", sum := "79d4df4e238797d4f22a1f02157074aab0b8fffb91825cf413007ce0cf6cda85", checked := Try.checked }
namespace Rows
def none {H : Type} : Left H := { results := [], args := [] }

/-- 'laws.FnLevelsBack': WHATEVER THE INPUT: true; the input reads as it did. -/
def fnLevelsBackSpec : ChangeSpec := { name := "fnLevelsBack", fn := fun _ => fun
  | [d] => { results := [.lit (.bool true)], args := [d] }
  | _ => none }
def fnLevelsBackRow : OpenClaim := { program := "ytbeebaiionlcoaa", sum := "79d4df4e238797d4f22a1f02157074aab0b8fffb91825cf413007ce0cf6cda85", func := "loop.example/wholenet/laws.FnLevelsBack", spec := "fnLevelsBack", unfollowed := true, recurses := true, apart := false }
def FnLevelsBackSaid : Prop := fnLevelsBackRow.holds Try.pinned (OpenSpec.ofChange fnLevelsBackSpec)

/-- ITS FALSE NEIGHBOUR: 'it returns false'. Refute it at one input. -/
def fnLevelsBackWrong : ChangeSpec := { name := "fnLevelsBack", fn := fun _ => fun
  | [d] => { results := [.lit (.bool false)], args := [d] }
  | _ => none }
def FnLevelsBackWrongFalsely : Prop := fnLevelsBackRow.holds Try.pinned (OpenSpec.ofChange fnLevelsBackWrong)

/-- 'laws.FnBitsFrom': WHATEVER THE INPUT: true; the input reads as it did. -/
def fnBitsFromSpec : ChangeSpec := { name := "fnBitsFrom", fn := fun _ => fun
  | [d] => { results := [.lit (.bool true)], args := [d] }
  | _ => none }
def fnBitsFromRow : OpenClaim := { program := "ytbeebaiionlcoaa", sum := "79d4df4e238797d4f22a1f02157074aab0b8fffb91825cf413007ce0cf6cda85", func := "loop.example/wholenet/laws.FnBitsFrom", spec := "fnBitsFrom", unfollowed := true, recurses := true, apart := false }
def FnBitsFromSaid : Prop := fnBitsFromRow.holds Try.pinned (OpenSpec.ofChange fnBitsFromSpec)

/-- ITS FALSE NEIGHBOUR: 'it returns false'. Refute it at one input. -/
def fnBitsFromWrong : ChangeSpec := { name := "fnBitsFrom", fn := fun _ => fun
  | [d] => { results := [.lit (.bool false)], args := [d] }
  | _ => none }
def FnBitsFromWrongFalsely : Prop := fnBitsFromRow.holds Try.pinned (OpenSpec.ofChange fnBitsFromWrong)

/-- 'laws.FnRuns': WHATEVER THE INPUT: true; the input reads as it did. -/
def fnRunsSpec : ChangeSpec := { name := "fnRuns", fn := fun _ => fun
  | [d] => { results := [.lit (.bool true)], args := [d] }
  | _ => none }
def fnRunsRow : OpenClaim := { program := "ytbeebaiionlcoaa", sum := "79d4df4e238797d4f22a1f02157074aab0b8fffb91825cf413007ce0cf6cda85", func := "loop.example/wholenet/laws.FnRuns", spec := "fnRuns", unfollowed := true, recurses := true, apart := false }
def FnRunsSaid : Prop := fnRunsRow.holds Try.pinned (OpenSpec.ofChange fnRunsSpec)

/-- ITS FALSE NEIGHBOUR: 'it returns false'. Refute it at one input. -/
def fnRunsWrong : ChangeSpec := { name := "fnRuns", fn := fun _ => fun
  | [d] => { results := [.lit (.bool false)], args := [d] }
  | _ => none }
def FnRunsWrongFalsely : Prop := fnRunsRow.holds Try.pinned (OpenSpec.ofChange fnRunsWrong)

/-- 'laws.FnClockDrift': WHATEVER THE INPUT: true; the input reads as it did. -/
def fnClockDriftSpec : ChangeSpec := { name := "fnClockDrift", fn := fun _ => fun
  | [d] => { results := [.lit (.bool true)], args := [d] }
  | _ => none }
def fnClockDriftRow : OpenClaim := { program := "ytbeebaiionlcoaa", sum := "79d4df4e238797d4f22a1f02157074aab0b8fffb91825cf413007ce0cf6cda85", func := "loop.example/wholenet/laws.FnClockDrift", spec := "fnClockDrift", unfollowed := true, recurses := true, apart := false }
def FnClockDriftSaid : Prop := fnClockDriftRow.holds Try.pinned (OpenSpec.ofChange fnClockDriftSpec)

/-- ITS FALSE NEIGHBOUR: 'it returns false'. Refute it at one input. -/
def fnClockDriftWrong : ChangeSpec := { name := "fnClockDrift", fn := fun _ => fun
  | [d] => { results := [.lit (.bool false)], args := [d] }
  | _ => none }
def FnClockDriftWrongFalsely : Prop := fnClockDriftRow.holds Try.pinned (OpenSpec.ofChange fnClockDriftWrong)

/-- 'laws.FnTicksSum': WHATEVER THE INPUT: true; the input reads as it did. -/
def fnTicksSumSpec : ChangeSpec := { name := "fnTicksSum", fn := fun _ => fun
  | [d] => { results := [.lit (.bool true)], args := [d] }
  | _ => none }
def fnTicksSumRow : OpenClaim := { program := "ytbeebaiionlcoaa", sum := "79d4df4e238797d4f22a1f02157074aab0b8fffb91825cf413007ce0cf6cda85", func := "loop.example/wholenet/laws.FnTicksSum", spec := "fnTicksSum", apart := false }
def FnTicksSumSaid : Prop := fnTicksSumRow.holds Try.pinned (OpenSpec.ofChange fnTicksSumSpec)

/-- ITS FALSE NEIGHBOUR: 'it returns false'. Refute it at one input. -/
def fnTicksSumWrong : ChangeSpec := { name := "fnTicksSum", fn := fun _ => fun
  | [d] => { results := [.lit (.bool false)], args := [d] }
  | _ => none }
def FnTicksSumWrongFalsely : Prop := fnTicksSumRow.holds Try.pinned (OpenSpec.ofChange fnTicksSumWrong)

/-- 'laws.FnLevelsFrom': WHATEVER THE INPUT: true; the input reads as it did. -/
def fnLevelsFromSpec : ChangeSpec := { name := "fnLevelsFrom", fn := fun _ => fun
  | [d] => { results := [.lit (.bool true)], args := [d] }
  | _ => none }
def fnLevelsFromRow : OpenClaim := { program := "ytbeebaiionlcoaa", sum := "79d4df4e238797d4f22a1f02157074aab0b8fffb91825cf413007ce0cf6cda85", func := "loop.example/wholenet/laws.FnLevelsFrom", spec := "fnLevelsFrom", unfollowed := true, recurses := true, apart := false }
def FnLevelsFromSaid : Prop := fnLevelsFromRow.holds Try.pinned (OpenSpec.ofChange fnLevelsFromSpec)

/-- ITS FALSE NEIGHBOUR: 'it returns false'. Refute it at one input. -/
def fnLevelsFromWrong : ChangeSpec := { name := "fnLevelsFrom", fn := fun _ => fun
  | [d] => { results := [.lit (.bool false)], args := [d] }
  | _ => none }
def FnLevelsFromWrongFalsely : Prop := fnLevelsFromRow.holds Try.pinned (OpenSpec.ofChange fnLevelsFromWrong)

/-- 'laws.FnReadLine': WHATEVER THE INPUT: true; the input reads as it did. -/
def fnReadLineSpec : ChangeSpec := { name := "fnReadLine", fn := fun _ => fun
  | [d] => { results := [.lit (.bool true)], args := [d] }
  | _ => none }
def fnReadLineRow : OpenClaim := { program := "ytbeebaiionlcoaa", sum := "79d4df4e238797d4f22a1f02157074aab0b8fffb91825cf413007ce0cf6cda85", func := "loop.example/wholenet/laws.FnReadLine", spec := "fnReadLine", unfollowed := true, recurses := true, apart := false }
def FnReadLineSaid : Prop := fnReadLineRow.holds Try.pinned (OpenSpec.ofChange fnReadLineSpec)

/-- ITS FALSE NEIGHBOUR: 'it returns false'. Refute it at one input. -/
def fnReadLineWrong : ChangeSpec := { name := "fnReadLine", fn := fun _ => fun
  | [d] => { results := [.lit (.bool false)], args := [d] }
  | _ => none }
def FnReadLineWrongFalsely : Prop := fnReadLineRow.holds Try.pinned (OpenSpec.ofChange fnReadLineWrong)

/-- 'laws.FnExactLevelsOf': WHATEVER THE INPUT: true; the input reads as it did. -/
def fnExactLevelsOfSpec : ChangeSpec := { name := "fnExactLevelsOf", fn := fun _ => fun
  | [d] => { results := [.lit (.bool true)], args := [d] }
  | _ => none }
def fnExactLevelsOfRow : OpenClaim := { program := "ytbeebaiionlcoaa", sum := "79d4df4e238797d4f22a1f02157074aab0b8fffb91825cf413007ce0cf6cda85", func := "loop.example/wholenet/laws.FnExactLevelsOf", spec := "fnExactLevelsOf", apart := false }
def FnExactLevelsOfSaid : Prop := fnExactLevelsOfRow.holds Try.pinned (OpenSpec.ofChange fnExactLevelsOfSpec)

/-- ITS FALSE NEIGHBOUR: 'it returns false'. Refute it at one input. -/
def fnExactLevelsOfWrong : ChangeSpec := { name := "fnExactLevelsOf", fn := fun _ => fun
  | [d] => { results := [.lit (.bool false)], args := [d] }
  | _ => none }
def FnExactLevelsOfWrongFalsely : Prop := fnExactLevelsOfRow.holds Try.pinned (OpenSpec.ofChange fnExactLevelsOfWrong)

/-- 'laws.FnExactBitsFrom': WHATEVER THE INPUT: true; the input reads as it did. -/
def fnExactBitsFromSpec : ChangeSpec := { name := "fnExactBitsFrom", fn := fun _ => fun
  | [d] => { results := [.lit (.bool true)], args := [d] }
  | _ => none }
def fnExactBitsFromRow : OpenClaim := { program := "ytbeebaiionlcoaa", sum := "79d4df4e238797d4f22a1f02157074aab0b8fffb91825cf413007ce0cf6cda85", func := "loop.example/wholenet/laws.FnExactBitsFrom", spec := "fnExactBitsFrom", unfollowed := true, recurses := true, apart := false }
def FnExactBitsFromSaid : Prop := fnExactBitsFromRow.holds Try.pinned (OpenSpec.ofChange fnExactBitsFromSpec)

/-- ITS FALSE NEIGHBOUR: 'it returns false'. Refute it at one input. -/
def fnExactBitsFromWrong : ChangeSpec := { name := "fnExactBitsFrom", fn := fun _ => fun
  | [d] => { results := [.lit (.bool false)], args := [d] }
  | _ => none }
def FnExactBitsFromWrongFalsely : Prop := fnExactBitsFromRow.holds Try.pinned (OpenSpec.ofChange fnExactBitsFromWrong)

/-- 'laws.FnExactTicksOf': WHATEVER THE INPUT: true; the input reads as it did. -/
def fnExactTicksOfSpec : ChangeSpec := { name := "fnExactTicksOf", fn := fun _ => fun
  | [d1, d2] => { results := [.lit (.bool true)], args := [d1, d2] }
  | _ => none }
def fnExactTicksOfRow : OpenClaim := { program := "ytbeebaiionlcoaa", sum := "79d4df4e238797d4f22a1f02157074aab0b8fffb91825cf413007ce0cf6cda85", func := "loop.example/wholenet/laws.FnExactTicksOf", spec := "fnExactTicksOf", apart := false }
def FnExactTicksOfSaid : Prop := fnExactTicksOfRow.holds Try.pinned (OpenSpec.ofChange fnExactTicksOfSpec)

/-- ITS FALSE NEIGHBOUR: 'it returns false'. Refute it at one input. -/
def fnExactTicksOfWrong : ChangeSpec := { name := "fnExactTicksOf", fn := fun _ => fun
  | [d1, d2] => { results := [.lit (.bool false)], args := [d1, d2] }
  | _ => none }
def FnExactTicksOfWrongFalsely : Prop := fnExactTicksOfRow.holds Try.pinned (OpenSpec.ofChange fnExactTicksOfWrong)

/-- 'laws.FnExactRunsOf': WHATEVER THE INPUT: true; the input reads as it did. -/
def fnExactRunsOfSpec : ChangeSpec := { name := "fnExactRunsOf", fn := fun _ => fun
  | [d] => { results := [.lit (.bool true)], args := [d] }
  | _ => none }
def fnExactRunsOfRow : OpenClaim := { program := "ytbeebaiionlcoaa", sum := "79d4df4e238797d4f22a1f02157074aab0b8fffb91825cf413007ce0cf6cda85", func := "loop.example/wholenet/laws.FnExactRunsOf", spec := "fnExactRunsOf", unfollowed := true, recurses := true, apart := false }
def FnExactRunsOfSaid : Prop := fnExactRunsOfRow.holds Try.pinned (OpenSpec.ofChange fnExactRunsOfSpec)

/-- ITS FALSE NEIGHBOUR: 'it returns false'. Refute it at one input. -/
def fnExactRunsOfWrong : ChangeSpec := { name := "fnExactRunsOf", fn := fun _ => fun
  | [d] => { results := [.lit (.bool false)], args := [d] }
  | _ => none }
def FnExactRunsOfWrongFalsely : Prop := fnExactRunsOfRow.holds Try.pinned (OpenSpec.ofChange fnExactRunsOfWrong)

/-- 'laws.FnExactLevelsFrom': WHATEVER THE INPUT: true; the input reads as it did. -/
def fnExactLevelsFromSpec : ChangeSpec := { name := "fnExactLevelsFrom", fn := fun _ => fun
  | [d1, d2] => { results := [.lit (.bool true)], args := [d1, d2] }
  | _ => none }
def fnExactLevelsFromRow : OpenClaim := { program := "ytbeebaiionlcoaa", sum := "79d4df4e238797d4f22a1f02157074aab0b8fffb91825cf413007ce0cf6cda85", func := "loop.example/wholenet/laws.FnExactLevelsFrom", spec := "fnExactLevelsFrom", unfollowed := true, recurses := true, apart := false }
def FnExactLevelsFromSaid : Prop := fnExactLevelsFromRow.holds Try.pinned (OpenSpec.ofChange fnExactLevelsFromSpec)

/-- ITS FALSE NEIGHBOUR: 'it returns false'. Refute it at one input. -/
def fnExactLevelsFromWrong : ChangeSpec := { name := "fnExactLevelsFrom", fn := fun _ => fun
  | [d1, d2] => { results := [.lit (.bool false)], args := [d1, d2] }
  | _ => none }
def FnExactLevelsFromWrongFalsely : Prop := fnExactLevelsFromRow.holds Try.pinned (OpenSpec.ofChange fnExactLevelsFromWrong)

/-- 'laws.FnExactReadLine': WHATEVER THE INPUT: true; the input reads as it did. -/
def fnExactReadLineSpec : ChangeSpec := { name := "fnExactReadLine", fn := fun _ => fun
  | [d1, d2] => { results := [.lit (.bool true)], args := [d1, d2] }
  | _ => none }
def fnExactReadLineRow : OpenClaim := { program := "ytbeebaiionlcoaa", sum := "79d4df4e238797d4f22a1f02157074aab0b8fffb91825cf413007ce0cf6cda85", func := "loop.example/wholenet/laws.FnExactReadLine", spec := "fnExactReadLine", unfollowed := true, recurses := true, apart := false }
def FnExactReadLineSaid : Prop := fnExactReadLineRow.holds Try.pinned (OpenSpec.ofChange fnExactReadLineSpec)

/-- ITS FALSE NEIGHBOUR: 'it returns false'. Refute it at one input. -/
def fnExactReadLineWrong : ChangeSpec := { name := "fnExactReadLine", fn := fun _ => fun
  | [d1, d2] => { results := [.lit (.bool false)], args := [d1, d2] }
  | _ => none }
def FnExactReadLineWrongFalsely : Prop := fnExactReadLineRow.holds Try.pinned (OpenSpec.ofChange fnExactReadLineWrong)

/- THE SECOND FORM. 'bulk': how many values and letters a reading holds, each counted each time it is reached (what is shared counts as often as it is met; a slice's spare places count too). A statement '..UptoSaid' is the law's where the arguments, and the package variables that the reading takes, are together of bulk at most 1048576: NARROWER than '..Said'. Prove '..Said' where nothing that the law and all that it calls make is longer than what came in: it says more and counts as full. Else prove '..UptoSaid'. A law counts once. -/
mutual
def uptoBulk {H : Type} : DataW H → Nat
  | .lit (.string bytes) => bytes.length + 1
  | .lit _ => 1
  | .nil => 1
  | .ptr d => uptoBulk d + 1
  | .slice elems spare => uptoBulkAll elems + uptoBulkAll spare + 1
  | .agg parts => uptoBulkAll parts + 1
  | .iface _ d => uptoBulk d + 1
  | .map entries => uptoBulkEntries entries + 1
  | .held _ => 1
def uptoBulkAll {H : Type} : List (DataW H) → Nat
  | [] => 0
  | d :: r => uptoBulk d + uptoBulkAll r
def uptoBulkEntries {H : Type} : List (Lit × DataW H) → Nat
  | [] => 0
  | x :: r => uptoBulkEntry x + uptoBulkEntries r
def uptoBulkEntry {H : Type} : Lit × DataW H → Nat
  | (.string bytes, d) => bytes.length + uptoBulk d + 1
  | (_, d) => uptoBulk d + 1
 end
def uptoSmall : (H : Type) → List (DataW H) → Bool := fun _ ds => decide (uptoBulkAll ds ≤ 1048576)
def OpenSpec.upto (s : _root_.Go.ChangeSpec) : _root_.Go.OpenSpec := { _root_.Go.OpenSpec.ofChange s with cond := some uptoSmall }

/-- 'laws.FnLevelsBack', WHERE WHAT IT READS IS OF BULK AT MOST 1048576: true; the input reads as it did. -/
def fnLevelsBackUptoRow : OpenClaim := { program := "ytbeebaiionlcoaa", sum := "79d4df4e238797d4f22a1f02157074aab0b8fffb91825cf413007ce0cf6cda85", func := "loop.example/wholenet/laws.FnLevelsBack", spec := "fnLevelsBack", unfollowed := true, recurses := true, apart := false, narrowed := true }
def FnLevelsBackUptoSaid : Prop := fnLevelsBackUptoRow.holds Try.pinned (OpenSpec.upto fnLevelsBackSpec)

/-- 'laws.FnBitsFrom', WHERE WHAT IT READS IS OF BULK AT MOST 1048576: true; the input reads as it did. -/
def fnBitsFromUptoRow : OpenClaim := { program := "ytbeebaiionlcoaa", sum := "79d4df4e238797d4f22a1f02157074aab0b8fffb91825cf413007ce0cf6cda85", func := "loop.example/wholenet/laws.FnBitsFrom", spec := "fnBitsFrom", unfollowed := true, recurses := true, apart := false, narrowed := true }
def FnBitsFromUptoSaid : Prop := fnBitsFromUptoRow.holds Try.pinned (OpenSpec.upto fnBitsFromSpec)

/-- 'laws.FnRuns', WHERE WHAT IT READS IS OF BULK AT MOST 1048576: true; the input reads as it did. -/
def fnRunsUptoRow : OpenClaim := { program := "ytbeebaiionlcoaa", sum := "79d4df4e238797d4f22a1f02157074aab0b8fffb91825cf413007ce0cf6cda85", func := "loop.example/wholenet/laws.FnRuns", spec := "fnRuns", unfollowed := true, recurses := true, apart := false, narrowed := true }
def FnRunsUptoSaid : Prop := fnRunsUptoRow.holds Try.pinned (OpenSpec.upto fnRunsSpec)

/-- 'laws.FnClockDrift', WHERE WHAT IT READS IS OF BULK AT MOST 1048576: true; the input reads as it did. -/
def fnClockDriftUptoRow : OpenClaim := { program := "ytbeebaiionlcoaa", sum := "79d4df4e238797d4f22a1f02157074aab0b8fffb91825cf413007ce0cf6cda85", func := "loop.example/wholenet/laws.FnClockDrift", spec := "fnClockDrift", unfollowed := true, recurses := true, apart := false, narrowed := true }
def FnClockDriftUptoSaid : Prop := fnClockDriftUptoRow.holds Try.pinned (OpenSpec.upto fnClockDriftSpec)

/-- 'laws.FnTicksSum', WHERE WHAT IT READS IS OF BULK AT MOST 1048576: true; the input reads as it did. -/
def fnTicksSumUptoRow : OpenClaim := { program := "ytbeebaiionlcoaa", sum := "79d4df4e238797d4f22a1f02157074aab0b8fffb91825cf413007ce0cf6cda85", func := "loop.example/wholenet/laws.FnTicksSum", spec := "fnTicksSum", apart := false, narrowed := true }
def FnTicksSumUptoSaid : Prop := fnTicksSumUptoRow.holds Try.pinned (OpenSpec.upto fnTicksSumSpec)

/-- 'laws.FnLevelsFrom', WHERE WHAT IT READS IS OF BULK AT MOST 1048576: true; the input reads as it did. -/
def fnLevelsFromUptoRow : OpenClaim := { program := "ytbeebaiionlcoaa", sum := "79d4df4e238797d4f22a1f02157074aab0b8fffb91825cf413007ce0cf6cda85", func := "loop.example/wholenet/laws.FnLevelsFrom", spec := "fnLevelsFrom", unfollowed := true, recurses := true, apart := false, narrowed := true }
def FnLevelsFromUptoSaid : Prop := fnLevelsFromUptoRow.holds Try.pinned (OpenSpec.upto fnLevelsFromSpec)

/-- 'laws.FnReadLine', WHERE WHAT IT READS IS OF BULK AT MOST 1048576: true; the input reads as it did. -/
def fnReadLineUptoRow : OpenClaim := { program := "ytbeebaiionlcoaa", sum := "79d4df4e238797d4f22a1f02157074aab0b8fffb91825cf413007ce0cf6cda85", func := "loop.example/wholenet/laws.FnReadLine", spec := "fnReadLine", unfollowed := true, recurses := true, apart := false, narrowed := true }
def FnReadLineUptoSaid : Prop := fnReadLineUptoRow.holds Try.pinned (OpenSpec.upto fnReadLineSpec)

/-- 'laws.FnExactLevelsOf', WHERE WHAT IT READS IS OF BULK AT MOST 1048576: true; the input reads as it did. -/
def fnExactLevelsOfUptoRow : OpenClaim := { program := "ytbeebaiionlcoaa", sum := "79d4df4e238797d4f22a1f02157074aab0b8fffb91825cf413007ce0cf6cda85", func := "loop.example/wholenet/laws.FnExactLevelsOf", spec := "fnExactLevelsOf", apart := false, narrowed := true }
def FnExactLevelsOfUptoSaid : Prop := fnExactLevelsOfUptoRow.holds Try.pinned (OpenSpec.upto fnExactLevelsOfSpec)

/-- 'laws.FnExactBitsFrom', WHERE WHAT IT READS IS OF BULK AT MOST 1048576: true; the input reads as it did. -/
def fnExactBitsFromUptoRow : OpenClaim := { program := "ytbeebaiionlcoaa", sum := "79d4df4e238797d4f22a1f02157074aab0b8fffb91825cf413007ce0cf6cda85", func := "loop.example/wholenet/laws.FnExactBitsFrom", spec := "fnExactBitsFrom", unfollowed := true, recurses := true, apart := false, narrowed := true }
def FnExactBitsFromUptoSaid : Prop := fnExactBitsFromUptoRow.holds Try.pinned (OpenSpec.upto fnExactBitsFromSpec)

/-- 'laws.FnExactTicksOf', WHERE WHAT IT READS IS OF BULK AT MOST 1048576: true; the input reads as it did. -/
def fnExactTicksOfUptoRow : OpenClaim := { program := "ytbeebaiionlcoaa", sum := "79d4df4e238797d4f22a1f02157074aab0b8fffb91825cf413007ce0cf6cda85", func := "loop.example/wholenet/laws.FnExactTicksOf", spec := "fnExactTicksOf", apart := false, narrowed := true }
def FnExactTicksOfUptoSaid : Prop := fnExactTicksOfUptoRow.holds Try.pinned (OpenSpec.upto fnExactTicksOfSpec)

/-- 'laws.FnExactRunsOf', WHERE WHAT IT READS IS OF BULK AT MOST 1048576: true; the input reads as it did. -/
def fnExactRunsOfUptoRow : OpenClaim := { program := "ytbeebaiionlcoaa", sum := "79d4df4e238797d4f22a1f02157074aab0b8fffb91825cf413007ce0cf6cda85", func := "loop.example/wholenet/laws.FnExactRunsOf", spec := "fnExactRunsOf", unfollowed := true, recurses := true, apart := false, narrowed := true }
def FnExactRunsOfUptoSaid : Prop := fnExactRunsOfUptoRow.holds Try.pinned (OpenSpec.upto fnExactRunsOfSpec)

/-- 'laws.FnExactLevelsFrom', WHERE WHAT IT READS IS OF BULK AT MOST 1048576: true; the input reads as it did. -/
def fnExactLevelsFromUptoRow : OpenClaim := { program := "ytbeebaiionlcoaa", sum := "79d4df4e238797d4f22a1f02157074aab0b8fffb91825cf413007ce0cf6cda85", func := "loop.example/wholenet/laws.FnExactLevelsFrom", spec := "fnExactLevelsFrom", unfollowed := true, recurses := true, apart := false, narrowed := true }
def FnExactLevelsFromUptoSaid : Prop := fnExactLevelsFromUptoRow.holds Try.pinned (OpenSpec.upto fnExactLevelsFromSpec)

/-- 'laws.FnExactReadLine', WHERE WHAT IT READS IS OF BULK AT MOST 1048576: true; the input reads as it did. -/
def fnExactReadLineUptoRow : OpenClaim := { program := "ytbeebaiionlcoaa", sum := "79d4df4e238797d4f22a1f02157074aab0b8fffb91825cf413007ce0cf6cda85", func := "loop.example/wholenet/laws.FnExactReadLine", spec := "fnExactReadLine", unfollowed := true, recurses := true, apart := false, narrowed := true }
def FnExactReadLineUptoSaid : Prop := fnExactReadLineUptoRow.holds Try.pinned (OpenSpec.upto fnExactReadLineSpec)

end Rows
end Go.Proofs.Ytbeebaiionlcoaa

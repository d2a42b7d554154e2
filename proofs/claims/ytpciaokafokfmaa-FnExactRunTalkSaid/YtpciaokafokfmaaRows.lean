/-
  No cell of these rows narrows 'for every input' (looked for: loops, veiled, ifaces, maps, wideKeys, modest, calm, conditions, laid).
  DERIVED. THE GIVEN ROWS OF THIS SEAT. 13 by the template 'for every input the law returns true; each argument reads behind the call as it read before'; 0 by the template 'total and deterministic' (their statements: YtpciaokafokfmaaTotals.lean).
  GIVEN WITH THE SEED: the statements are not yours to turn. If you find one false, say at which input.
  Laid BY PROGRAM, IN A SANDBOX (cutbox-rows.mjs): the forced cells as the released guide's own fill.sh prints them over the translation 70c294c6003608d8… (all of the seat's roots in one cut). By AI agents, Wed Nov 11 2026. No macro, syntax, notation, axiom, sorry.
-/
import Derived.Test.YtpciaokafokfmaaChecked
import GoSem.Claim
import GoSem.ClaimJoined
import GoSem.ClaimMapViews
import Derived.JoinedTies
import Derived.KernelRfl
namespace Go.Proofs.Ytpciaokafokfmaa
/- THE CELL 'sum', in the pinned program and in every row, IS THE sha256 OF THE DUMP (.gsa) THAT YtpciaokafokfmaaProg.lean LOADS. Nothing in Lean hashes anything: it is a label: what it is worth is what the hold of that sum in a sandbox is worth. -/
noncomputable def Try.pinned : Pinned := { name := "ytpciaokafokfmaa", sum := "70c294c6003608d8a3ea0159232a87aa4e7dd22602656e7cadfbb76a2a237c76", checked := Try.checked }
namespace Rows
def none {H : Type} : Left H := { results := [], args := [] }

/-- 'laws.FnTalkOnce': WHATEVER THE INPUT: true; the input reads as it did. -/
def fnTalkOnceSpec : ChangeSpec := { name := "fnTalkOnce", fn := fun _ => fun
  | [d] => { results := [.lit (.bool true)], args := [d] }
  | _ => none }
def fnTalkOnceRow : OpenClaim := { program := "ytpciaokafokfmaa", sum := "70c294c6003608d8a3ea0159232a87aa4e7dd22602656e7cadfbb76a2a237c76", func := "loop.example/wholenet/laws.FnTalkOnce", spec := "fnTalkOnce", unfollowed := true, recurses := true, apart := false }
def FnTalkOnceSaid : Prop := fnTalkOnceRow.holds Try.pinned (OpenSpec.ofChange fnTalkOnceSpec)

/-- ITS FALSE NEIGHBOUR: 'it returns false'. Refute it at one input. -/
def fnTalkOnceWrong : ChangeSpec := { name := "fnTalkOnce", fn := fun _ => fun
  | [d] => { results := [.lit (.bool false)], args := [d] }
  | _ => none }
def FnTalkOnceWrongFalsely : Prop := fnTalkOnceRow.holds Try.pinned (OpenSpec.ofChange fnTalkOnceWrong)

/-- 'laws.FnTalkAlone': WHATEVER THE INPUT: true; the input reads as it did. -/
def fnTalkAloneSpec : ChangeSpec := { name := "fnTalkAlone", fn := fun _ => fun
  | [d] => { results := [.lit (.bool true)], args := [d] }
  | _ => none }
def fnTalkAloneRow : OpenClaim := { program := "ytpciaokafokfmaa", sum := "70c294c6003608d8a3ea0159232a87aa4e7dd22602656e7cadfbb76a2a237c76", func := "loop.example/wholenet/laws.FnTalkAlone", spec := "fnTalkAlone", unfollowed := true, recurses := true, apart := false }
def FnTalkAloneSaid : Prop := fnTalkAloneRow.holds Try.pinned (OpenSpec.ofChange fnTalkAloneSpec)

/-- ITS FALSE NEIGHBOUR: 'it returns false'. Refute it at one input. -/
def fnTalkAloneWrong : ChangeSpec := { name := "fnTalkAlone", fn := fun _ => fun
  | [d] => { results := [.lit (.bool false)], args := [d] }
  | _ => none }
def FnTalkAloneWrongFalsely : Prop := fnTalkAloneRow.holds Try.pinned (OpenSpec.ofChange fnTalkAloneWrong)

/-- 'laws.FnTalkLonger': WHATEVER THE INPUT: true; the input reads as it did. -/
def fnTalkLongerSpec : ChangeSpec := { name := "fnTalkLonger", fn := fun _ => fun
  | [d] => { results := [.lit (.bool true)], args := [d] }
  | _ => none }
def fnTalkLongerRow : OpenClaim := { program := "ytpciaokafokfmaa", sum := "70c294c6003608d8a3ea0159232a87aa4e7dd22602656e7cadfbb76a2a237c76", func := "loop.example/wholenet/laws.FnTalkLonger", spec := "fnTalkLonger", unfollowed := true, recurses := true, apart := false }
def FnTalkLongerSaid : Prop := fnTalkLongerRow.holds Try.pinned (OpenSpec.ofChange fnTalkLongerSpec)

/-- ITS FALSE NEIGHBOUR: 'it returns false'. Refute it at one input. -/
def fnTalkLongerWrong : ChangeSpec := { name := "fnTalkLonger", fn := fun _ => fun
  | [d] => { results := [.lit (.bool false)], args := [d] }
  | _ => none }
def FnTalkLongerWrongFalsely : Prop := fnTalkLongerRow.holds Try.pinned (OpenSpec.ofChange fnTalkLongerWrong)

/-- 'laws.FnWaitOf': WHATEVER THE INPUT: true; the input reads as it did. -/
def fnWaitOfSpec : ChangeSpec := { name := "fnWaitOf", fn := fun _ => fun
  | [d] => { results := [.lit (.bool true)], args := [d] }
  | _ => none }
def fnWaitOfRow : OpenClaim := { program := "ytpciaokafokfmaa", sum := "70c294c6003608d8a3ea0159232a87aa4e7dd22602656e7cadfbb76a2a237c76", func := "loop.example/wholenet/laws.FnWaitOf", spec := "fnWaitOf", apart := false }
def FnWaitOfSaid : Prop := fnWaitOfRow.holds Try.pinned (OpenSpec.ofChange fnWaitOfSpec)

/-- ITS FALSE NEIGHBOUR: 'it returns false'. Refute it at one input. -/
def fnWaitOfWrong : ChangeSpec := { name := "fnWaitOf", fn := fun _ => fun
  | [d] => { results := [.lit (.bool false)], args := [d] }
  | _ => none }
def FnWaitOfWrongFalsely : Prop := fnWaitOfRow.holds Try.pinned (OpenSpec.ofChange fnWaitOfWrong)

/-- 'laws.FnToken': WHATEVER THE INPUT: true; the input reads as it did. -/
def fnTokenSpec : ChangeSpec := { name := "fnToken", fn := fun _ => fun
  | [d] => { results := [.lit (.bool true)], args := [d] }
  | _ => none }
def fnTokenRow : OpenClaim := { program := "ytpciaokafokfmaa", sum := "70c294c6003608d8a3ea0159232a87aa4e7dd22602656e7cadfbb76a2a237c76", func := "loop.example/wholenet/laws.FnToken", spec := "fnToken", apart := false }
def FnTokenSaid : Prop := fnTokenRow.holds Try.pinned (OpenSpec.ofChange fnTokenSpec)

/-- ITS FALSE NEIGHBOUR: 'it returns false'. Refute it at one input. -/
def fnTokenWrong : ChangeSpec := { name := "fnToken", fn := fun _ => fun
  | [d] => { results := [.lit (.bool false)], args := [d] }
  | _ => none }
def FnTokenWrongFalsely : Prop := fnTokenRow.holds Try.pinned (OpenSpec.ofChange fnTokenWrong)

/-- 'laws.FnTokenFair': WHATEVER THE INPUT: true; the input reads as it did. -/
def fnTokenFairSpec : ChangeSpec := { name := "fnTokenFair", fn := fun _ => fun
  | [d] => { results := [.lit (.bool true)], args := [d] }
  | _ => none }
def fnTokenFairRow : OpenClaim := { program := "ytpciaokafokfmaa", sum := "70c294c6003608d8a3ea0159232a87aa4e7dd22602656e7cadfbb76a2a237c76", func := "loop.example/wholenet/laws.FnTokenFair", spec := "fnTokenFair", apart := false }
def FnTokenFairSaid : Prop := fnTokenFairRow.holds Try.pinned (OpenSpec.ofChange fnTokenFairSpec)

/-- ITS FALSE NEIGHBOUR: 'it returns false'. Refute it at one input. -/
def fnTokenFairWrong : ChangeSpec := { name := "fnTokenFair", fn := fun _ => fun
  | [d] => { results := [.lit (.bool false)], args := [d] }
  | _ => none }
def FnTokenFairWrongFalsely : Prop := fnTokenFairRow.holds Try.pinned (OpenSpec.ofChange fnTokenFairWrong)

/-- 'laws.FnTurns': WHATEVER THE INPUT: true; the input reads as it did. -/
def fnTurnsSpec : ChangeSpec := { name := "fnTurns", fn := fun _ => fun
  | [d1, d2] => { results := [.lit (.bool true)], args := [d1, d2] }
  | _ => none }
def fnTurnsRow : OpenClaim := { program := "ytpciaokafokfmaa", sum := "70c294c6003608d8a3ea0159232a87aa4e7dd22602656e7cadfbb76a2a237c76", func := "loop.example/wholenet/laws.FnTurns", spec := "fnTurns", apart := false }
def FnTurnsSaid : Prop := fnTurnsRow.holds Try.pinned (OpenSpec.ofChange fnTurnsSpec)

/-- ITS FALSE NEIGHBOUR: 'it returns false'. Refute it at one input. -/
def fnTurnsWrong : ChangeSpec := { name := "fnTurns", fn := fun _ => fun
  | [d1, d2] => { results := [.lit (.bool false)], args := [d1, d2] }
  | _ => none }
def FnTurnsWrongFalsely : Prop := fnTurnsRow.holds Try.pinned (OpenSpec.ofChange fnTurnsWrong)

/-- 'laws.FnExactTalkValid': WHATEVER THE INPUT: true; the input reads as it did. -/
def fnExactTalkValidSpec : ChangeSpec := { name := "fnExactTalkValid", fn := fun _ => fun
  | [d] => { results := [.lit (.bool true)], args := [d] }
  | _ => none }
def fnExactTalkValidRow : OpenClaim := { program := "ytpciaokafokfmaa", sum := "70c294c6003608d8a3ea0159232a87aa4e7dd22602656e7cadfbb76a2a237c76", func := "loop.example/wholenet/laws.FnExactTalkValid", spec := "fnExactTalkValid", apart := false }
def FnExactTalkValidSaid : Prop := fnExactTalkValidRow.holds Try.pinned (OpenSpec.ofChange fnExactTalkValidSpec)

/-- ITS FALSE NEIGHBOUR: 'it returns false'. Refute it at one input. -/
def fnExactTalkValidWrong : ChangeSpec := { name := "fnExactTalkValid", fn := fun _ => fun
  | [d] => { results := [.lit (.bool false)], args := [d] }
  | _ => none }
def FnExactTalkValidWrongFalsely : Prop := fnExactTalkValidRow.holds Try.pinned (OpenSpec.ofChange fnExactTalkValidWrong)

/-- 'laws.FnExactWaitOf': WHATEVER THE INPUT: true; the input reads as it did. -/
def fnExactWaitOfSpec : ChangeSpec := { name := "fnExactWaitOf", fn := fun _ => fun
  | [d1, d2] => { results := [.lit (.bool true)], args := [d1, d2] }
  | _ => none }
def fnExactWaitOfRow : OpenClaim := { program := "ytpciaokafokfmaa", sum := "70c294c6003608d8a3ea0159232a87aa4e7dd22602656e7cadfbb76a2a237c76", func := "loop.example/wholenet/laws.FnExactWaitOf", spec := "fnExactWaitOf", apart := false }
def FnExactWaitOfSaid : Prop := fnExactWaitOfRow.holds Try.pinned (OpenSpec.ofChange fnExactWaitOfSpec)

/-- ITS FALSE NEIGHBOUR: 'it returns false'. Refute it at one input. -/
def fnExactWaitOfWrong : ChangeSpec := { name := "fnExactWaitOf", fn := fun _ => fun
  | [d1, d2] => { results := [.lit (.bool false)], args := [d1, d2] }
  | _ => none }
def FnExactWaitOfWrongFalsely : Prop := fnExactWaitOfRow.holds Try.pinned (OpenSpec.ofChange fnExactWaitOfWrong)

/-- 'laws.FnExactRunTalk': WHATEVER THE INPUT: true; the input reads as it did. -/
def fnExactRunTalkSpec : ChangeSpec := { name := "fnExactRunTalk", fn := fun _ => fun
  | [d1, d2, d3] => { results := [.lit (.bool true)], args := [d1, d2, d3] }
  | _ => none }
def fnExactRunTalkRow : OpenClaim := { program := "ytpciaokafokfmaa", sum := "70c294c6003608d8a3ea0159232a87aa4e7dd22602656e7cadfbb76a2a237c76", func := "loop.example/wholenet/laws.FnExactRunTalk", spec := "fnExactRunTalk", unfollowed := true, recurses := true, apart := false }
def FnExactRunTalkSaid : Prop := fnExactRunTalkRow.holds Try.pinned (OpenSpec.ofChange fnExactRunTalkSpec)

/-- ITS FALSE NEIGHBOUR: 'it returns false'. Refute it at one input. -/
def fnExactRunTalkWrong : ChangeSpec := { name := "fnExactRunTalk", fn := fun _ => fun
  | [d1, d2, d3] => { results := [.lit (.bool false)], args := [d1, d2, d3] }
  | _ => none }
def FnExactRunTalkWrongFalsely : Prop := fnExactRunTalkRow.holds Try.pinned (OpenSpec.ofChange fnExactRunTalkWrong)

/-- 'laws.FnExactRunToken': WHATEVER THE INPUT: true; the input reads as it did. -/
def fnExactRunTokenSpec : ChangeSpec := { name := "fnExactRunToken", fn := fun _ => fun
  | [d1, d2, d3] => { results := [.lit (.bool true)], args := [d1, d2, d3] }
  | _ => none }
def fnExactRunTokenRow : OpenClaim := { program := "ytpciaokafokfmaa", sum := "70c294c6003608d8a3ea0159232a87aa4e7dd22602656e7cadfbb76a2a237c76", func := "loop.example/wholenet/laws.FnExactRunToken", spec := "fnExactRunToken", apart := false }
def FnExactRunTokenSaid : Prop := fnExactRunTokenRow.holds Try.pinned (OpenSpec.ofChange fnExactRunTokenSpec)

/-- ITS FALSE NEIGHBOUR: 'it returns false'. Refute it at one input. -/
def fnExactRunTokenWrong : ChangeSpec := { name := "fnExactRunToken", fn := fun _ => fun
  | [d1, d2, d3] => { results := [.lit (.bool false)], args := [d1, d2, d3] }
  | _ => none }
def FnExactRunTokenWrongFalsely : Prop := fnExactRunTokenRow.holds Try.pinned (OpenSpec.ofChange fnExactRunTokenWrong)

/-- 'laws.FnExactSentBy': WHATEVER THE INPUT: true; the input reads as it did. -/
def fnExactSentBySpec : ChangeSpec := { name := "fnExactSentBy", fn := fun _ => fun
  | [d1, d2] => { results := [.lit (.bool true)], args := [d1, d2] }
  | _ => none }
def fnExactSentByRow : OpenClaim := { program := "ytpciaokafokfmaa", sum := "70c294c6003608d8a3ea0159232a87aa4e7dd22602656e7cadfbb76a2a237c76", func := "loop.example/wholenet/laws.FnExactSentBy", spec := "fnExactSentBy", apart := false }
def FnExactSentBySaid : Prop := fnExactSentByRow.holds Try.pinned (OpenSpec.ofChange fnExactSentBySpec)

/-- ITS FALSE NEIGHBOUR: 'it returns false'. Refute it at one input. -/
def fnExactSentByWrong : ChangeSpec := { name := "fnExactSentBy", fn := fun _ => fun
  | [d1, d2] => { results := [.lit (.bool false)], args := [d1, d2] }
  | _ => none }
def FnExactSentByWrongFalsely : Prop := fnExactSentByRow.holds Try.pinned (OpenSpec.ofChange fnExactSentByWrong)

/-- 'laws.FnExactTurnsOf': WHATEVER THE INPUT: true; the input reads as it did. -/
def fnExactTurnsOfSpec : ChangeSpec := { name := "fnExactTurnsOf", fn := fun _ => fun
  | [d1, d2] => { results := [.lit (.bool true)], args := [d1, d2] }
  | _ => none }
def fnExactTurnsOfRow : OpenClaim := { program := "ytpciaokafokfmaa", sum := "70c294c6003608d8a3ea0159232a87aa4e7dd22602656e7cadfbb76a2a237c76", func := "loop.example/wholenet/laws.FnExactTurnsOf", spec := "fnExactTurnsOf", apart := false }
def FnExactTurnsOfSaid : Prop := fnExactTurnsOfRow.holds Try.pinned (OpenSpec.ofChange fnExactTurnsOfSpec)

/-- ITS FALSE NEIGHBOUR: 'it returns false'. Refute it at one input. -/
def fnExactTurnsOfWrong : ChangeSpec := { name := "fnExactTurnsOf", fn := fun _ => fun
  | [d1, d2] => { results := [.lit (.bool false)], args := [d1, d2] }
  | _ => none }
def FnExactTurnsOfWrongFalsely : Prop := fnExactTurnsOfRow.holds Try.pinned (OpenSpec.ofChange fnExactTurnsOfWrong)

/- THE SECOND FORM. 'bulk': how many values and letters a reading holds, each counted each time it is reached (what is shared counts as often as it is met; a slice's spare places count too). A statement '..UptoSaid' is the law's where the arguments, and the package variables that the reading takes, are together of bulk at most 1048576: NARROWER than '..Said'. Prove '..Said' where nothing that the law and all that it calls make is longer than what came in: it says more and counts as full. Else prove '..UptoSaid'. A law counts once. -/
mutual
def uptoBulk {H : Type} : DataW H → Nat
  | .lit (.string bytes) => bytes.length + 1
  | .lit _ => 1
  | .nil => 1
  | .ptr d => uptoBulk d + 1
  | .slice elems spare => uptoBulkAll elems + uptoBulkAll spare + 1
  | .agg parts => uptoBulkAll parts + 1
  | .iface _ d => uptoBulk d + 1
  | .map entries => uptoBulkEntries entries + 1
  | .held _ => 1
def uptoBulkAll {H : Type} : List (DataW H) → Nat
  | [] => 0
  | d :: r => uptoBulk d + uptoBulkAll r
def uptoBulkEntries {H : Type} : List (Lit × DataW H) → Nat
  | [] => 0
  | x :: r => uptoBulkEntry x + uptoBulkEntries r
def uptoBulkEntry {H : Type} : Lit × DataW H → Nat
  | (.string bytes, d) => bytes.length + uptoBulk d + 1
  | (_, d) => uptoBulk d + 1
 end
def uptoSmall : (H : Type) → List (DataW H) → Bool := fun _ ds => decide (uptoBulkAll ds ≤ 1048576)
def OpenSpec.upto (s : _root_.Go.ChangeSpec) : _root_.Go.OpenSpec := { _root_.Go.OpenSpec.ofChange s with cond := some uptoSmall }

/-- 'laws.FnTalkOnce', WHERE WHAT IT READS IS OF BULK AT MOST 1048576: true; the input reads as it did. -/
def fnTalkOnceUptoRow : OpenClaim := { program := "ytpciaokafokfmaa", sum := "70c294c6003608d8a3ea0159232a87aa4e7dd22602656e7cadfbb76a2a237c76", func := "loop.example/wholenet/laws.FnTalkOnce", spec := "fnTalkOnce", unfollowed := true, recurses := true, apart := false, narrowed := true }
def FnTalkOnceUptoSaid : Prop := fnTalkOnceUptoRow.holds Try.pinned (OpenSpec.upto fnTalkOnceSpec)

/-- 'laws.FnTalkAlone', WHERE WHAT IT READS IS OF BULK AT MOST 1048576: true; the input reads as it did. -/
def fnTalkAloneUptoRow : OpenClaim := { program := "ytpciaokafokfmaa", sum := "70c294c6003608d8a3ea0159232a87aa4e7dd22602656e7cadfbb76a2a237c76", func := "loop.example/wholenet/laws.FnTalkAlone", spec := "fnTalkAlone", unfollowed := true, recurses := true, apart := false, narrowed := true }
def FnTalkAloneUptoSaid : Prop := fnTalkAloneUptoRow.holds Try.pinned (OpenSpec.upto fnTalkAloneSpec)

/-- 'laws.FnTalkLonger', WHERE WHAT IT READS IS OF BULK AT MOST 1048576: true; the input reads as it did. -/
def fnTalkLongerUptoRow : OpenClaim := { program := "ytpciaokafokfmaa", sum := "70c294c6003608d8a3ea0159232a87aa4e7dd22602656e7cadfbb76a2a237c76", func := "loop.example/wholenet/laws.FnTalkLonger", spec := "fnTalkLonger", unfollowed := true, recurses := true, apart := false, narrowed := true }
def FnTalkLongerUptoSaid : Prop := fnTalkLongerUptoRow.holds Try.pinned (OpenSpec.upto fnTalkLongerSpec)

/-- 'laws.FnWaitOf', WHERE WHAT IT READS IS OF BULK AT MOST 1048576: true; the input reads as it did. -/
def fnWaitOfUptoRow : OpenClaim := { program := "ytpciaokafokfmaa", sum := "70c294c6003608d8a3ea0159232a87aa4e7dd22602656e7cadfbb76a2a237c76", func := "loop.example/wholenet/laws.FnWaitOf", spec := "fnWaitOf", apart := false, narrowed := true }
def FnWaitOfUptoSaid : Prop := fnWaitOfUptoRow.holds Try.pinned (OpenSpec.upto fnWaitOfSpec)

/-- 'laws.FnToken', WHERE WHAT IT READS IS OF BULK AT MOST 1048576: true; the input reads as it did. -/
def fnTokenUptoRow : OpenClaim := { program := "ytpciaokafokfmaa", sum := "70c294c6003608d8a3ea0159232a87aa4e7dd22602656e7cadfbb76a2a237c76", func := "loop.example/wholenet/laws.FnToken", spec := "fnToken", apart := false, narrowed := true }
def FnTokenUptoSaid : Prop := fnTokenUptoRow.holds Try.pinned (OpenSpec.upto fnTokenSpec)

/-- 'laws.FnTokenFair', WHERE WHAT IT READS IS OF BULK AT MOST 1048576: true; the input reads as it did. -/
def fnTokenFairUptoRow : OpenClaim := { program := "ytpciaokafokfmaa", sum := "70c294c6003608d8a3ea0159232a87aa4e7dd22602656e7cadfbb76a2a237c76", func := "loop.example/wholenet/laws.FnTokenFair", spec := "fnTokenFair", apart := false, narrowed := true }
def FnTokenFairUptoSaid : Prop := fnTokenFairUptoRow.holds Try.pinned (OpenSpec.upto fnTokenFairSpec)

/-- 'laws.FnTurns', WHERE WHAT IT READS IS OF BULK AT MOST 1048576: true; the input reads as it did. -/
def fnTurnsUptoRow : OpenClaim := { program := "ytpciaokafokfmaa", sum := "70c294c6003608d8a3ea0159232a87aa4e7dd22602656e7cadfbb76a2a237c76", func := "loop.example/wholenet/laws.FnTurns", spec := "fnTurns", apart := false, narrowed := true }
def FnTurnsUptoSaid : Prop := fnTurnsUptoRow.holds Try.pinned (OpenSpec.upto fnTurnsSpec)

/-- 'laws.FnExactTalkValid', WHERE WHAT IT READS IS OF BULK AT MOST 1048576: true; the input reads as it did. -/
def fnExactTalkValidUptoRow : OpenClaim := { program := "ytpciaokafokfmaa", sum := "70c294c6003608d8a3ea0159232a87aa4e7dd22602656e7cadfbb76a2a237c76", func := "loop.example/wholenet/laws.FnExactTalkValid", spec := "fnExactTalkValid", apart := false, narrowed := true }
def FnExactTalkValidUptoSaid : Prop := fnExactTalkValidUptoRow.holds Try.pinned (OpenSpec.upto fnExactTalkValidSpec)

/-- 'laws.FnExactWaitOf', WHERE WHAT IT READS IS OF BULK AT MOST 1048576: true; the input reads as it did. -/
def fnExactWaitOfUptoRow : OpenClaim := { program := "ytpciaokafokfmaa", sum := "70c294c6003608d8a3ea0159232a87aa4e7dd22602656e7cadfbb76a2a237c76", func := "loop.example/wholenet/laws.FnExactWaitOf", spec := "fnExactWaitOf", apart := false, narrowed := true }
def FnExactWaitOfUptoSaid : Prop := fnExactWaitOfUptoRow.holds Try.pinned (OpenSpec.upto fnExactWaitOfSpec)

/-- 'laws.FnExactRunTalk', WHERE WHAT IT READS IS OF BULK AT MOST 1048576: true; the input reads as it did. -/
def fnExactRunTalkUptoRow : OpenClaim := { program := "ytpciaokafokfmaa", sum := "70c294c6003608d8a3ea0159232a87aa4e7dd22602656e7cadfbb76a2a237c76", func := "loop.example/wholenet/laws.FnExactRunTalk", spec := "fnExactRunTalk", unfollowed := true, recurses := true, apart := false, narrowed := true }
def FnExactRunTalkUptoSaid : Prop := fnExactRunTalkUptoRow.holds Try.pinned (OpenSpec.upto fnExactRunTalkSpec)

/-- 'laws.FnExactRunToken', WHERE WHAT IT READS IS OF BULK AT MOST 1048576: true; the input reads as it did. -/
def fnExactRunTokenUptoRow : OpenClaim := { program := "ytpciaokafokfmaa", sum := "70c294c6003608d8a3ea0159232a87aa4e7dd22602656e7cadfbb76a2a237c76", func := "loop.example/wholenet/laws.FnExactRunToken", spec := "fnExactRunToken", apart := false, narrowed := true }
def FnExactRunTokenUptoSaid : Prop := fnExactRunTokenUptoRow.holds Try.pinned (OpenSpec.upto fnExactRunTokenSpec)

/-- 'laws.FnExactSentBy', WHERE WHAT IT READS IS OF BULK AT MOST 1048576: true; the input reads as it did. -/
def fnExactSentByUptoRow : OpenClaim := { program := "ytpciaokafokfmaa", sum := "70c294c6003608d8a3ea0159232a87aa4e7dd22602656e7cadfbb76a2a237c76", func := "loop.example/wholenet/laws.FnExactSentBy", spec := "fnExactSentBy", apart := false, narrowed := true }
def FnExactSentByUptoSaid : Prop := fnExactSentByUptoRow.holds Try.pinned (OpenSpec.upto fnExactSentBySpec)

/-- 'laws.FnExactTurnsOf', WHERE WHAT IT READS IS OF BULK AT MOST 1048576: true; the input reads as it did. -/
def fnExactTurnsOfUptoRow : OpenClaim := { program := "ytpciaokafokfmaa", sum := "70c294c6003608d8a3ea0159232a87aa4e7dd22602656e7cadfbb76a2a237c76", func := "loop.example/wholenet/laws.FnExactTurnsOf", spec := "fnExactTurnsOf", apart := false, narrowed := true }
def FnExactTurnsOfUptoSaid : Prop := fnExactTurnsOfUptoRow.holds Try.pinned (OpenSpec.upto fnExactTurnsOfSpec)

end Rows
end Go.Proofs.Ytpciaokafokfmaa

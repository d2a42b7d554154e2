/-
  No cell of these rows narrows 'for every input' (looked for: loops, veiled, ifaces, maps, wideKeys, modest, calm, conditions, laid).
  DERIVED. THE GIVEN ROWS OF THIS SEAT. 14 by the template 'for every input the law returns true; each argument reads behind the call as it read before'; 0 by the template 'total and deterministic' (their statements: YtmifhkhanjiklaaTotals.lean).
  GIVEN WITH THE SEED: the statements are not yours to turn. If you find one false, say at which input.
  Laid BY PROGRAM, IN A SANDBOX (cutbox-rows.mjs): the forced cells as the released guide's own fill.sh prints them over the translation b090f079c93175e1… (all of the seat's roots in one cut). By AI agents, Wed Nov 11 2026. No macro, syntax, notation, axiom, sorry.
-/
import Derived.Test.YtmifhkhanjiklaaChecked
import GoSem.Claim
import GoSem.ClaimJoined
import GoSem.ClaimMapViews
import Derived.JoinedTies
import Derived.KernelRfl
namespace Go.Proofs.Ytmifhkhanjiklaa
/- THE CELL 'sum', in the pinned program and in every row, IS THE sha256 OF THE DUMP (.gsa) THAT YtmifhkhanjiklaaProg.lean LOADS. Nothing in Lean hashes anything: it is a label: what it is worth is what the hold of that sum in a sandbox is worth. -/
noncomputable def Try.pinned : Pinned := { name := "ytmifhkhanjiklaa", sum := "b090f079c93175e14b968ead062a5670396ccd039123ccf821e213b74ed7b5cd", checked := Try.checked }
namespace Rows
def none {H : Type} : Left H := { results := [], args := [] }

/-- 'laws.FnAhead': WHATEVER THE INPUT: true; the input reads as it did. -/
def fnAheadSpec : ChangeSpec := { name := "fnAhead", fn := fun _ => fun
  | [d] => { results := [.lit (.bool true)], args := [d] }
  | _ => none }
def fnAheadRow : OpenClaim := { program := "ytmifhkhanjiklaa", sum := "b090f079c93175e14b968ead062a5670396ccd039123ccf821e213b74ed7b5cd", func := "loop.example/wholenet/laws.FnAhead", spec := "fnAhead", apart := false }
def FnAheadSaid : Prop := fnAheadRow.holds Try.pinned (OpenSpec.ofChange fnAheadSpec)

/-- ITS FALSE NEIGHBOUR: 'it returns false'. Refute it at one input. -/
def fnAheadWrong : ChangeSpec := { name := "fnAhead", fn := fun _ => fun
  | [d] => { results := [.lit (.bool false)], args := [d] }
  | _ => none }
def FnAheadWrongFalsely : Prop := fnAheadRow.holds Try.pinned (OpenSpec.ofChange fnAheadWrong)

/-- 'laws.FnAheadEven': WHATEVER THE INPUT: true; the input reads as it did. -/
def fnAheadEvenSpec : ChangeSpec := { name := "fnAheadEven", fn := fun _ => fun
  | [d] => { results := [.lit (.bool true)], args := [d] }
  | _ => none }
def fnAheadEvenRow : OpenClaim := { program := "ytmifhkhanjiklaa", sum := "b090f079c93175e14b968ead062a5670396ccd039123ccf821e213b74ed7b5cd", func := "loop.example/wholenet/laws.FnAheadEven", spec := "fnAheadEven", apart := false }
def FnAheadEvenSaid : Prop := fnAheadEvenRow.holds Try.pinned (OpenSpec.ofChange fnAheadEvenSpec)

/-- ITS FALSE NEIGHBOUR: 'it returns false'. Refute it at one input. -/
def fnAheadEvenWrong : ChangeSpec := { name := "fnAheadEven", fn := fun _ => fun
  | [d] => { results := [.lit (.bool false)], args := [d] }
  | _ => none }
def FnAheadEvenWrongFalsely : Prop := fnAheadEvenRow.holds Try.pinned (OpenSpec.ofChange fnAheadEvenWrong)

/-- 'laws.FnSpan': WHATEVER THE INPUT: true; the input reads as it did. -/
def fnSpanSpec : ChangeSpec := { name := "fnSpan", fn := fun _ => fun
  | [d] => { results := [.lit (.bool true)], args := [d] }
  | _ => none }
def fnSpanRow : OpenClaim := { program := "ytmifhkhanjiklaa", sum := "b090f079c93175e14b968ead062a5670396ccd039123ccf821e213b74ed7b5cd", func := "loop.example/wholenet/laws.FnSpan", spec := "fnSpan", apart := false }
def FnSpanSaid : Prop := fnSpanRow.holds Try.pinned (OpenSpec.ofChange fnSpanSpec)

/-- ITS FALSE NEIGHBOUR: 'it returns false'. Refute it at one input. -/
def fnSpanWrong : ChangeSpec := { name := "fnSpan", fn := fun _ => fun
  | [d] => { results := [.lit (.bool false)], args := [d] }
  | _ => none }
def FnSpanWrongFalsely : Prop := fnSpanRow.holds Try.pinned (OpenSpec.ofChange fnSpanWrong)

/-- 'laws.FnBest': WHATEVER THE INPUT: true; the input reads as it did. -/
def fnBestSpec : ChangeSpec := { name := "fnBest", fn := fun _ => fun
  | [d] => { results := [.lit (.bool true)], args := [d] }
  | _ => none }
def fnBestRow : OpenClaim := { program := "ytmifhkhanjiklaa", sum := "b090f079c93175e14b968ead062a5670396ccd039123ccf821e213b74ed7b5cd", func := "loop.example/wholenet/laws.FnBest", spec := "fnBest", unfollowed := true, recurses := true, apart := false }
def FnBestSaid : Prop := fnBestRow.holds Try.pinned (OpenSpec.ofChange fnBestSpec)

/-- ITS FALSE NEIGHBOUR: 'it returns false'. Refute it at one input. -/
def fnBestWrong : ChangeSpec := { name := "fnBest", fn := fun _ => fun
  | [d] => { results := [.lit (.bool false)], args := [d] }
  | _ => none }
def FnBestWrongFalsely : Prop := fnBestRow.holds Try.pinned (OpenSpec.ofChange fnBestWrong)

/-- 'laws.FnMeetMost': WHATEVER THE INPUT: true; the input reads as it did. -/
def fnMeetMostSpec : ChangeSpec := { name := "fnMeetMost", fn := fun _ => fun
  | [d] => { results := [.lit (.bool true)], args := [d] }
  | _ => none }
def fnMeetMostRow : OpenClaim := { program := "ytmifhkhanjiklaa", sum := "b090f079c93175e14b968ead062a5670396ccd039123ccf821e213b74ed7b5cd", func := "loop.example/wholenet/laws.FnMeetMost", spec := "fnMeetMost", unfollowed := true, recurses := true, apart := false }
def FnMeetMostSaid : Prop := fnMeetMostRow.holds Try.pinned (OpenSpec.ofChange fnMeetMostSpec)

/-- ITS FALSE NEIGHBOUR: 'it returns false'. Refute it at one input. -/
def fnMeetMostWrong : ChangeSpec := { name := "fnMeetMost", fn := fun _ => fun
  | [d] => { results := [.lit (.bool false)], args := [d] }
  | _ => none }
def FnMeetMostWrongFalsely : Prop := fnMeetMostRow.holds Try.pinned (OpenSpec.ofChange fnMeetMostWrong)

/-- 'laws.FnMeetTrue': WHATEVER THE INPUT: true; the input reads as it did. -/
def fnMeetTrueSpec : ChangeSpec := { name := "fnMeetTrue", fn := fun _ => fun
  | [d1, d2] => { results := [.lit (.bool true)], args := [d1, d2] }
  | _ => none }
def fnMeetTrueRow : OpenClaim := { program := "ytmifhkhanjiklaa", sum := "b090f079c93175e14b968ead062a5670396ccd039123ccf821e213b74ed7b5cd", func := "loop.example/wholenet/laws.FnMeetTrue", spec := "fnMeetTrue", unfollowed := true, recurses := true, apart := false }
def FnMeetTrueSaid : Prop := fnMeetTrueRow.holds Try.pinned (OpenSpec.ofChange fnMeetTrueSpec)

/-- ITS FALSE NEIGHBOUR: 'it returns false'. Refute it at one input. -/
def fnMeetTrueWrong : ChangeSpec := { name := "fnMeetTrue", fn := fun _ => fun
  | [d1, d2] => { results := [.lit (.bool false)], args := [d1, d2] }
  | _ => none }
def FnMeetTrueWrongFalsely : Prop := fnMeetTrueRow.holds Try.pinned (OpenSpec.ofChange fnMeetTrueWrong)

/-- 'laws.FnExactExchangeValid': WHATEVER THE INPUT: true; the input reads as it did. -/
def fnExactExchangeValidSpec : ChangeSpec := { name := "fnExactExchangeValid", fn := fun _ => fun
  | [d] => { results := [.lit (.bool true)], args := [d] }
  | _ => none }
def fnExactExchangeValidRow : OpenClaim := { program := "ytmifhkhanjiklaa", sum := "b090f079c93175e14b968ead062a5670396ccd039123ccf821e213b74ed7b5cd", func := "loop.example/wholenet/laws.FnExactExchangeValid", spec := "fnExactExchangeValid", apart := false }
def FnExactExchangeValidSaid : Prop := fnExactExchangeValidRow.holds Try.pinned (OpenSpec.ofChange fnExactExchangeValidSpec)

/-- ITS FALSE NEIGHBOUR: 'it returns false'. Refute it at one input. -/
def fnExactExchangeValidWrong : ChangeSpec := { name := "fnExactExchangeValid", fn := fun _ => fun
  | [d] => { results := [.lit (.bool false)], args := [d] }
  | _ => none }
def FnExactExchangeValidWrongFalsely : Prop := fnExactExchangeValidRow.holds Try.pinned (OpenSpec.ofChange fnExactExchangeValidWrong)

/-- 'laws.FnExactTalkTimes': WHATEVER THE INPUT: true; the input reads as it did. -/
def fnExactTalkTimesSpec : ChangeSpec := { name := "fnExactTalkTimes", fn := fun _ => fun
  | [d1, d2, d3, d4, d5] => { results := [.lit (.bool true)], args := [d1, d2, d3, d4, d5] }
  | _ => none }
def fnExactTalkTimesRow : OpenClaim := { program := "ytmifhkhanjiklaa", sum := "b090f079c93175e14b968ead062a5670396ccd039123ccf821e213b74ed7b5cd", func := "loop.example/wholenet/laws.FnExactTalkTimes", spec := "fnExactTalkTimes", apart := false }
def FnExactTalkTimesSaid : Prop := fnExactTalkTimesRow.holds Try.pinned (OpenSpec.ofChange fnExactTalkTimesSpec)

/-- ITS FALSE NEIGHBOUR: 'it returns false'. Refute it at one input. -/
def fnExactTalkTimesWrong : ChangeSpec := { name := "fnExactTalkTimes", fn := fun _ => fun
  | [d1, d2, d3, d4, d5] => { results := [.lit (.bool false)], args := [d1, d2, d3, d4, d5] }
  | _ => none }
def FnExactTalkTimesWrongFalsely : Prop := fnExactTalkTimesRow.holds Try.pinned (OpenSpec.ofChange fnExactTalkTimesWrong)

/-- 'laws.FnExactTwiceAhead': WHATEVER THE INPUT: true; the input reads as it did. -/
def fnExactTwiceAheadSpec : ChangeSpec := { name := "fnExactTwiceAhead", fn := fun _ => fun
  | [d] => { results := [.lit (.bool true)], args := [d] }
  | _ => none }
def fnExactTwiceAheadRow : OpenClaim := { program := "ytmifhkhanjiklaa", sum := "b090f079c93175e14b968ead062a5670396ccd039123ccf821e213b74ed7b5cd", func := "loop.example/wholenet/laws.FnExactTwiceAhead", spec := "fnExactTwiceAhead", apart := false }
def FnExactTwiceAheadSaid : Prop := fnExactTwiceAheadRow.holds Try.pinned (OpenSpec.ofChange fnExactTwiceAheadSpec)

/-- ITS FALSE NEIGHBOUR: 'it returns false'. Refute it at one input. -/
def fnExactTwiceAheadWrong : ChangeSpec := { name := "fnExactTwiceAhead", fn := fun _ => fun
  | [d] => { results := [.lit (.bool false)], args := [d] }
  | _ => none }
def FnExactTwiceAheadWrongFalsely : Prop := fnExactTwiceAheadRow.holds Try.pinned (OpenSpec.ofChange fnExactTwiceAheadWrong)

/-- 'laws.FnExactWayOf': WHATEVER THE INPUT: true; the input reads as it did. -/
def fnExactWayOfSpec : ChangeSpec := { name := "fnExactWayOf", fn := fun _ => fun
  | [d] => { results := [.lit (.bool true)], args := [d] }
  | _ => none }
def fnExactWayOfRow : OpenClaim := { program := "ytmifhkhanjiklaa", sum := "b090f079c93175e14b968ead062a5670396ccd039123ccf821e213b74ed7b5cd", func := "loop.example/wholenet/laws.FnExactWayOf", spec := "fnExactWayOf", apart := false }
def FnExactWayOfSaid : Prop := fnExactWayOfRow.holds Try.pinned (OpenSpec.ofChange fnExactWayOfSpec)

/-- ITS FALSE NEIGHBOUR: 'it returns false'. Refute it at one input. -/
def fnExactWayOfWrong : ChangeSpec := { name := "fnExactWayOf", fn := fun _ => fun
  | [d] => { results := [.lit (.bool false)], args := [d] }
  | _ => none }
def FnExactWayOfWrongFalsely : Prop := fnExactWayOfRow.holds Try.pinned (OpenSpec.ofChange fnExactWayOfWrong)

/-- 'laws.FnExactSpanOf': WHATEVER THE INPUT: true; the input reads as it did. -/
def fnExactSpanOfSpec : ChangeSpec := { name := "fnExactSpanOf", fn := fun _ => fun
  | [d] => { results := [.lit (.bool true)], args := [d] }
  | _ => none }
def fnExactSpanOfRow : OpenClaim := { program := "ytmifhkhanjiklaa", sum := "b090f079c93175e14b968ead062a5670396ccd039123ccf821e213b74ed7b5cd", func := "loop.example/wholenet/laws.FnExactSpanOf", spec := "fnExactSpanOf", apart := false }
def FnExactSpanOfSaid : Prop := fnExactSpanOfRow.holds Try.pinned (OpenSpec.ofChange fnExactSpanOfSpec)

/-- ITS FALSE NEIGHBOUR: 'it returns false'. Refute it at one input. -/
def fnExactSpanOfWrong : ChangeSpec := { name := "fnExactSpanOf", fn := fun _ => fun
  | [d] => { results := [.lit (.bool false)], args := [d] }
  | _ => none }
def FnExactSpanOfWrongFalsely : Prop := fnExactSpanOfRow.holds Try.pinned (OpenSpec.ofChange fnExactSpanOfWrong)

/-- 'laws.FnExactBestOf': WHATEVER THE INPUT: true; the input reads as it did. -/
def fnExactBestOfSpec : ChangeSpec := { name := "fnExactBestOf", fn := fun _ => fun
  | [d] => { results := [.lit (.bool true)], args := [d] }
  | _ => none }
def fnExactBestOfRow : OpenClaim := { program := "ytmifhkhanjiklaa", sum := "b090f079c93175e14b968ead062a5670396ccd039123ccf821e213b74ed7b5cd", func := "loop.example/wholenet/laws.FnExactBestOf", spec := "fnExactBestOf", unfollowed := true, recurses := true, apart := false }
def FnExactBestOfSaid : Prop := fnExactBestOfRow.holds Try.pinned (OpenSpec.ofChange fnExactBestOfSpec)

/-- ITS FALSE NEIGHBOUR: 'it returns false'. Refute it at one input. -/
def fnExactBestOfWrong : ChangeSpec := { name := "fnExactBestOf", fn := fun _ => fun
  | [d] => { results := [.lit (.bool false)], args := [d] }
  | _ => none }
def FnExactBestOfWrongFalsely : Prop := fnExactBestOfRow.holds Try.pinned (OpenSpec.ofChange fnExactBestOfWrong)

/-- 'laws.FnExactMeetSpans': WHATEVER THE INPUT: true; the input reads as it did. -/
def fnExactMeetSpansSpec : ChangeSpec := { name := "fnExactMeetSpans", fn := fun _ => fun
  | [d] => { results := [.lit (.bool true)], args := [d] }
  | _ => none }
def fnExactMeetSpansRow : OpenClaim := { program := "ytmifhkhanjiklaa", sum := "b090f079c93175e14b968ead062a5670396ccd039123ccf821e213b74ed7b5cd", func := "loop.example/wholenet/laws.FnExactMeetSpans", spec := "fnExactMeetSpans", unfollowed := true, recurses := true, apart := false }
def FnExactMeetSpansSaid : Prop := fnExactMeetSpansRow.holds Try.pinned (OpenSpec.ofChange fnExactMeetSpansSpec)

/-- ITS FALSE NEIGHBOUR: 'it returns false'. Refute it at one input. -/
def fnExactMeetSpansWrong : ChangeSpec := { name := "fnExactMeetSpans", fn := fun _ => fun
  | [d] => { results := [.lit (.bool false)], args := [d] }
  | _ => none }
def FnExactMeetSpansWrongFalsely : Prop := fnExactMeetSpansRow.holds Try.pinned (OpenSpec.ofChange fnExactMeetSpansWrong)

/-- 'laws.FnExactSpanHas': WHATEVER THE INPUT: true; the input reads as it did. -/
def fnExactSpanHasSpec : ChangeSpec := { name := "fnExactSpanHas", fn := fun _ => fun
  | [d1, d2] => { results := [.lit (.bool true)], args := [d1, d2] }
  | _ => none }
def fnExactSpanHasRow : OpenClaim := { program := "ytmifhkhanjiklaa", sum := "b090f079c93175e14b968ead062a5670396ccd039123ccf821e213b74ed7b5cd", func := "loop.example/wholenet/laws.FnExactSpanHas", spec := "fnExactSpanHas", apart := false }
def FnExactSpanHasSaid : Prop := fnExactSpanHasRow.holds Try.pinned (OpenSpec.ofChange fnExactSpanHasSpec)

/-- ITS FALSE NEIGHBOUR: 'it returns false'. Refute it at one input. -/
def fnExactSpanHasWrong : ChangeSpec := { name := "fnExactSpanHas", fn := fun _ => fun
  | [d1, d2] => { results := [.lit (.bool false)], args := [d1, d2] }
  | _ => none }
def FnExactSpanHasWrongFalsely : Prop := fnExactSpanHasRow.holds Try.pinned (OpenSpec.ofChange fnExactSpanHasWrong)

/- THE SECOND FORM. 'bulk': how many values and letters a reading holds, each counted each time it is reached (what is shared counts as often as it is met; a slice's spare places count too). A statement '..UptoSaid' is the law's where the arguments, and the package variables that the reading takes, are together of bulk at most 1048576: NARROWER than '..Said'. Prove '..Said' where nothing that the law and all that it calls make is longer than what came in: it says more and counts as full. Else prove '..UptoSaid'. A law counts once. -/
mutual
def uptoBulk {H : Type} : DataW H → Nat
  | .lit (.string bytes) => bytes.length + 1
  | .lit _ => 1
  | .nil => 1
  | .ptr d => uptoBulk d + 1
  | .slice elems spare => uptoBulkAll elems + uptoBulkAll spare + 1
  | .agg parts => uptoBulkAll parts + 1
  | .iface _ d => uptoBulk d + 1
  | .map entries => uptoBulkEntries entries + 1
  | .held _ => 1
def uptoBulkAll {H : Type} : List (DataW H) → Nat
  | [] => 0
  | d :: r => uptoBulk d + uptoBulkAll r
def uptoBulkEntries {H : Type} : List (Lit × DataW H) → Nat
  | [] => 0
  | x :: r => uptoBulkEntry x + uptoBulkEntries r
def uptoBulkEntry {H : Type} : Lit × DataW H → Nat
  | (.string bytes, d) => bytes.length + uptoBulk d + 1
  | (_, d) => uptoBulk d + 1
 end
def uptoSmall : (H : Type) → List (DataW H) → Bool := fun _ ds => decide (uptoBulkAll ds ≤ 1048576)
def OpenSpec.upto (s : _root_.Go.ChangeSpec) : _root_.Go.OpenSpec := { _root_.Go.OpenSpec.ofChange s with cond := some uptoSmall }

/-- 'laws.FnAhead', WHERE WHAT IT READS IS OF BULK AT MOST 1048576: true; the input reads as it did. -/
def fnAheadUptoRow : OpenClaim := { program := "ytmifhkhanjiklaa", sum := "b090f079c93175e14b968ead062a5670396ccd039123ccf821e213b74ed7b5cd", func := "loop.example/wholenet/laws.FnAhead", spec := "fnAhead", apart := false, narrowed := true }
def FnAheadUptoSaid : Prop := fnAheadUptoRow.holds Try.pinned (OpenSpec.upto fnAheadSpec)

/-- 'laws.FnAheadEven', WHERE WHAT IT READS IS OF BULK AT MOST 1048576: true; the input reads as it did. -/
def fnAheadEvenUptoRow : OpenClaim := { program := "ytmifhkhanjiklaa", sum := "b090f079c93175e14b968ead062a5670396ccd039123ccf821e213b74ed7b5cd", func := "loop.example/wholenet/laws.FnAheadEven", spec := "fnAheadEven", apart := false, narrowed := true }
def FnAheadEvenUptoSaid : Prop := fnAheadEvenUptoRow.holds Try.pinned (OpenSpec.upto fnAheadEvenSpec)

/-- 'laws.FnSpan', WHERE WHAT IT READS IS OF BULK AT MOST 1048576: true; the input reads as it did. -/
def fnSpanUptoRow : OpenClaim := { program := "ytmifhkhanjiklaa", sum := "b090f079c93175e14b968ead062a5670396ccd039123ccf821e213b74ed7b5cd", func := "loop.example/wholenet/laws.FnSpan", spec := "fnSpan", apart := false, narrowed := true }
def FnSpanUptoSaid : Prop := fnSpanUptoRow.holds Try.pinned (OpenSpec.upto fnSpanSpec)

/-- 'laws.FnBest', WHERE WHAT IT READS IS OF BULK AT MOST 1048576: true; the input reads as it did. -/
def fnBestUptoRow : OpenClaim := { program := "ytmifhkhanjiklaa", sum := "b090f079c93175e14b968ead062a5670396ccd039123ccf821e213b74ed7b5cd", func := "loop.example/wholenet/laws.FnBest", spec := "fnBest", unfollowed := true, recurses := true, apart := false, narrowed := true }
def FnBestUptoSaid : Prop := fnBestUptoRow.holds Try.pinned (OpenSpec.upto fnBestSpec)

/-- 'laws.FnMeetMost', WHERE WHAT IT READS IS OF BULK AT MOST 1048576: true; the input reads as it did. -/
def fnMeetMostUptoRow : OpenClaim := { program := "ytmifhkhanjiklaa", sum := "b090f079c93175e14b968ead062a5670396ccd039123ccf821e213b74ed7b5cd", func := "loop.example/wholenet/laws.FnMeetMost", spec := "fnMeetMost", unfollowed := true, recurses := true, apart := false, narrowed := true }
def FnMeetMostUptoSaid : Prop := fnMeetMostUptoRow.holds Try.pinned (OpenSpec.upto fnMeetMostSpec)

/-- 'laws.FnMeetTrue', WHERE WHAT IT READS IS OF BULK AT MOST 1048576: true; the input reads as it did. -/
def fnMeetTrueUptoRow : OpenClaim := { program := "ytmifhkhanjiklaa", sum := "b090f079c93175e14b968ead062a5670396ccd039123ccf821e213b74ed7b5cd", func := "loop.example/wholenet/laws.FnMeetTrue", spec := "fnMeetTrue", unfollowed := true, recurses := true, apart := false, narrowed := true }
def FnMeetTrueUptoSaid : Prop := fnMeetTrueUptoRow.holds Try.pinned (OpenSpec.upto fnMeetTrueSpec)

/-- 'laws.FnExactExchangeValid', WHERE WHAT IT READS IS OF BULK AT MOST 1048576: true; the input reads as it did. -/
def fnExactExchangeValidUptoRow : OpenClaim := { program := "ytmifhkhanjiklaa", sum := "b090f079c93175e14b968ead062a5670396ccd039123ccf821e213b74ed7b5cd", func := "loop.example/wholenet/laws.FnExactExchangeValid", spec := "fnExactExchangeValid", apart := false, narrowed := true }
def FnExactExchangeValidUptoSaid : Prop := fnExactExchangeValidUptoRow.holds Try.pinned (OpenSpec.upto fnExactExchangeValidSpec)

/-- 'laws.FnExactTalkTimes', WHERE WHAT IT READS IS OF BULK AT MOST 1048576: true; the input reads as it did. -/
def fnExactTalkTimesUptoRow : OpenClaim := { program := "ytmifhkhanjiklaa", sum := "b090f079c93175e14b968ead062a5670396ccd039123ccf821e213b74ed7b5cd", func := "loop.example/wholenet/laws.FnExactTalkTimes", spec := "fnExactTalkTimes", apart := false, narrowed := true }
def FnExactTalkTimesUptoSaid : Prop := fnExactTalkTimesUptoRow.holds Try.pinned (OpenSpec.upto fnExactTalkTimesSpec)

/-- 'laws.FnExactTwiceAhead', WHERE WHAT IT READS IS OF BULK AT MOST 1048576: true; the input reads as it did. -/
def fnExactTwiceAheadUptoRow : OpenClaim := { program := "ytmifhkhanjiklaa", sum := "b090f079c93175e14b968ead062a5670396ccd039123ccf821e213b74ed7b5cd", func := "loop.example/wholenet/laws.FnExactTwiceAhead", spec := "fnExactTwiceAhead", apart := false, narrowed := true }
def FnExactTwiceAheadUptoSaid : Prop := fnExactTwiceAheadUptoRow.holds Try.pinned (OpenSpec.upto fnExactTwiceAheadSpec)

/-- 'laws.FnExactWayOf', WHERE WHAT IT READS IS OF BULK AT MOST 1048576: true; the input reads as it did. -/
def fnExactWayOfUptoRow : OpenClaim := { program := "ytmifhkhanjiklaa", sum := "b090f079c93175e14b968ead062a5670396ccd039123ccf821e213b74ed7b5cd", func := "loop.example/wholenet/laws.FnExactWayOf", spec := "fnExactWayOf", apart := false, narrowed := true }
def FnExactWayOfUptoSaid : Prop := fnExactWayOfUptoRow.holds Try.pinned (OpenSpec.upto fnExactWayOfSpec)

/-- 'laws.FnExactSpanOf', WHERE WHAT IT READS IS OF BULK AT MOST 1048576: true; the input reads as it did. -/
def fnExactSpanOfUptoRow : OpenClaim := { program := "ytmifhkhanjiklaa", sum := "b090f079c93175e14b968ead062a5670396ccd039123ccf821e213b74ed7b5cd", func := "loop.example/wholenet/laws.FnExactSpanOf", spec := "fnExactSpanOf", apart := false, narrowed := true }
def FnExactSpanOfUptoSaid : Prop := fnExactSpanOfUptoRow.holds Try.pinned (OpenSpec.upto fnExactSpanOfSpec)

/-- 'laws.FnExactBestOf', WHERE WHAT IT READS IS OF BULK AT MOST 1048576: true; the input reads as it did. -/
def fnExactBestOfUptoRow : OpenClaim := { program := "ytmifhkhanjiklaa", sum := "b090f079c93175e14b968ead062a5670396ccd039123ccf821e213b74ed7b5cd", func := "loop.example/wholenet/laws.FnExactBestOf", spec := "fnExactBestOf", unfollowed := true, recurses := true, apart := false, narrowed := true }
def FnExactBestOfUptoSaid : Prop := fnExactBestOfUptoRow.holds Try.pinned (OpenSpec.upto fnExactBestOfSpec)

/-- 'laws.FnExactMeetSpans', WHERE WHAT IT READS IS OF BULK AT MOST 1048576: true; the input reads as it did. -/
def fnExactMeetSpansUptoRow : OpenClaim := { program := "ytmifhkhanjiklaa", sum := "b090f079c93175e14b968ead062a5670396ccd039123ccf821e213b74ed7b5cd", func := "loop.example/wholenet/laws.FnExactMeetSpans", spec := "fnExactMeetSpans", unfollowed := true, recurses := true, apart := false, narrowed := true }
def FnExactMeetSpansUptoSaid : Prop := fnExactMeetSpansUptoRow.holds Try.pinned (OpenSpec.upto fnExactMeetSpansSpec)

/-- 'laws.FnExactSpanHas', WHERE WHAT IT READS IS OF BULK AT MOST 1048576: true; the input reads as it did. -/
def fnExactSpanHasUptoRow : OpenClaim := { program := "ytmifhkhanjiklaa", sum := "b090f079c93175e14b968ead062a5670396ccd039123ccf821e213b74ed7b5cd", func := "loop.example/wholenet/laws.FnExactSpanHas", spec := "fnExactSpanHas", apart := false, narrowed := true }
def FnExactSpanHasUptoSaid : Prop := fnExactSpanHasUptoRow.holds Try.pinned (OpenSpec.upto fnExactSpanHasSpec)

end Rows
end Go.Proofs.Ytmifhkhanjiklaa

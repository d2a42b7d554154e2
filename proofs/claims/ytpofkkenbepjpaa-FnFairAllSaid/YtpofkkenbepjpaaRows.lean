/-
  No cell of these rows narrows 'for every input' (looked for: loops, veiled, ifaces, maps, wideKeys, modest, calm, conditions, laid).
  DERIVED. THE GIVEN ROWS OF THIS SEAT. 13 by the template 'for every input the law returns true; each argument reads behind the call as it read before'; 0 by the template 'total and deterministic' (their statements: YtpofkkenbepjpaaTotals.lean).
  GIVEN WITH THE SEED: the statements are not yours to turn. If you find one false, say at which input.
  Laid BY PROGRAM, IN A SANDBOX (cutbox-rows.mjs): the forced cells as the released guide's own fill.sh prints them over the translation 46f9146611ea4f0e… (all of the seat's roots in one cut). By AI agents, Wed Nov 11 2026. No macro, syntax, notation, axiom, sorry.
-/
import Derived.Test.YtpofkkenbepjpaaChecked
import GoSem.Claim
import GoSem.ClaimJoined
import GoSem.ClaimMapViews
import Derived.JoinedTies
import Derived.KernelRfl
namespace Go.Proofs.Ytpofkkenbepjpaa
/- THE CELL 'sum', in the pinned program and in every row, IS THE sha256 OF THE DUMP (.gsa) THAT YtpofkkenbepjpaaProg.lean LOADS. Nothing in Lean hashes anything: it is a label: what it is worth is what the hold of that sum in a sandbox is worth. -/
noncomputable def Try.pinned : Pinned := { name := "ytpofkkenbepjpaa", sum := "46f9146611ea4f0e7903c62df503a063480991cf6cc25e681dca8e9c1d09cca6", checked := Try.checked }
namespace Rows
def none {H : Type} : Left H := { results := [], args := [] }

/-- 'laws.FnFairAll': WHATEVER THE INPUT: true; the input reads as it did. -/
def fnFairAllSpec : ChangeSpec := { name := "fnFairAll", fn := fun _ => fun
  | [d] => { results := [.lit (.bool true)], args := [d] }
  | _ => none }
def fnFairAllRow : OpenClaim := { program := "ytpofkkenbepjpaa", sum := "46f9146611ea4f0e7903c62df503a063480991cf6cc25e681dca8e9c1d09cca6", func := "loop.example/wholenet/laws.FnFairAll", spec := "fnFairAll", unfollowed := true, recurses := true, apart := false }
def FnFairAllSaid : Prop := fnFairAllRow.holds Try.pinned (OpenSpec.ofChange fnFairAllSpec)

/-- ITS FALSE NEIGHBOUR: 'it returns false'. Refute it at one input. -/
def fnFairAllWrong : ChangeSpec := { name := "fnFairAll", fn := fun _ => fun
  | [d] => { results := [.lit (.bool false)], args := [d] }
  | _ => none }
def FnFairAllWrongFalsely : Prop := fnFairAllRow.holds Try.pinned (OpenSpec.ofChange fnFairAllWrong)

/-- 'laws.FnFairApart': WHATEVER THE INPUT: true; the input reads as it did. -/
def fnFairApartSpec : ChangeSpec := { name := "fnFairApart", fn := fun _ => fun
  | [d] => { results := [.lit (.bool true)], args := [d] }
  | _ => none }
def fnFairApartRow : OpenClaim := { program := "ytpofkkenbepjpaa", sum := "46f9146611ea4f0e7903c62df503a063480991cf6cc25e681dca8e9c1d09cca6", func := "loop.example/wholenet/laws.FnFairApart", spec := "fnFairApart", unfollowed := true, recurses := true, apart := false }
def FnFairApartSaid : Prop := fnFairApartRow.holds Try.pinned (OpenSpec.ofChange fnFairApartSpec)

/-- ITS FALSE NEIGHBOUR: 'it returns false'. Refute it at one input. -/
def fnFairApartWrong : ChangeSpec := { name := "fnFairApart", fn := fun _ => fun
  | [d] => { results := [.lit (.bool false)], args := [d] }
  | _ => none }
def FnFairApartWrongFalsely : Prop := fnFairApartRow.holds Try.pinned (OpenSpec.ofChange fnFairApartWrong)

/-- 'laws.FnFairAlone': WHATEVER THE INPUT: true; the input reads as it did. -/
def fnFairAloneSpec : ChangeSpec := { name := "fnFairAlone", fn := fun _ => fun
  | [d] => { results := [.lit (.bool true)], args := [d] }
  | _ => none }
def fnFairAloneRow : OpenClaim := { program := "ytpofkkenbepjpaa", sum := "46f9146611ea4f0e7903c62df503a063480991cf6cc25e681dca8e9c1d09cca6", func := "loop.example/wholenet/laws.FnFairAlone", spec := "fnFairAlone", unfollowed := true, recurses := true, apart := false }
def FnFairAloneSaid : Prop := fnFairAloneRow.holds Try.pinned (OpenSpec.ofChange fnFairAloneSpec)

/-- ITS FALSE NEIGHBOUR: 'it returns false'. Refute it at one input. -/
def fnFairAloneWrong : ChangeSpec := { name := "fnFairAlone", fn := fun _ => fun
  | [d] => { results := [.lit (.bool false)], args := [d] }
  | _ => none }
def FnFairAloneWrongFalsely : Prop := fnFairAloneRow.holds Try.pinned (OpenSpec.ofChange fnFairAloneWrong)

/-- 'laws.FnStrict': WHATEVER THE INPUT: true; the input reads as it did. -/
def fnStrictSpec : ChangeSpec := { name := "fnStrict", fn := fun _ => fun
  | [d] => { results := [.lit (.bool true)], args := [d] }
  | _ => none }
def fnStrictRow : OpenClaim := { program := "ytpofkkenbepjpaa", sum := "46f9146611ea4f0e7903c62df503a063480991cf6cc25e681dca8e9c1d09cca6", func := "loop.example/wholenet/laws.FnStrict", spec := "fnStrict", unfollowed := true, recurses := true, apart := false }
def FnStrictSaid : Prop := fnStrictRow.holds Try.pinned (OpenSpec.ofChange fnStrictSpec)

/-- ITS FALSE NEIGHBOUR: 'it returns false'. Refute it at one input. -/
def fnStrictWrong : ChangeSpec := { name := "fnStrict", fn := fun _ => fun
  | [d] => { results := [.lit (.bool false)], args := [d] }
  | _ => none }
def FnStrictWrongFalsely : Prop := fnStrictRow.holds Try.pinned (OpenSpec.ofChange fnStrictWrong)

/-- 'laws.FnServed': WHATEVER THE INPUT: true; the input reads as it did. -/
def fnServedSpec : ChangeSpec := { name := "fnServed", fn := fun _ => fun
  | [d] => { results := [.lit (.bool true)], args := [d] }
  | _ => none }
def fnServedRow : OpenClaim := { program := "ytpofkkenbepjpaa", sum := "46f9146611ea4f0e7903c62df503a063480991cf6cc25e681dca8e9c1d09cca6", func := "loop.example/wholenet/laws.FnServed", spec := "fnServed", apart := false }
def FnServedSaid : Prop := fnServedRow.holds Try.pinned (OpenSpec.ofChange fnServedSpec)

/-- ITS FALSE NEIGHBOUR: 'it returns false'. Refute it at one input. -/
def fnServedWrong : ChangeSpec := { name := "fnServed", fn := fun _ => fun
  | [d] => { results := [.lit (.bool false)], args := [d] }
  | _ => none }
def FnServedWrongFalsely : Prop := fnServedRow.holds Try.pinned (OpenSpec.ofChange fnServedWrong)

/-- 'laws.FnApartBound': WHATEVER THE INPUT: true; the input reads as it did. -/
def fnApartBoundSpec : ChangeSpec := { name := "fnApartBound", fn := fun _ => fun
  | [d] => { results := [.lit (.bool true)], args := [d] }
  | _ => none }
def fnApartBoundRow : OpenClaim := { program := "ytpofkkenbepjpaa", sum := "46f9146611ea4f0e7903c62df503a063480991cf6cc25e681dca8e9c1d09cca6", func := "loop.example/wholenet/laws.FnApartBound", spec := "fnApartBound", apart := false }
def FnApartBoundSaid : Prop := fnApartBoundRow.holds Try.pinned (OpenSpec.ofChange fnApartBoundSpec)

/-- ITS FALSE NEIGHBOUR: 'it returns false'. Refute it at one input. -/
def fnApartBoundWrong : ChangeSpec := { name := "fnApartBound", fn := fun _ => fun
  | [d] => { results := [.lit (.bool false)], args := [d] }
  | _ => none }
def FnApartBoundWrongFalsely : Prop := fnApartBoundRow.holds Try.pinned (OpenSpec.ofChange fnApartBoundWrong)

/-- 'laws.FnWaits': WHATEVER THE INPUT: true; the input reads as it did. -/
def fnWaitsSpec : ChangeSpec := { name := "fnWaits", fn := fun _ => fun
  | [d] => { results := [.lit (.bool true)], args := [d] }
  | _ => none }
def fnWaitsRow : OpenClaim := { program := "ytpofkkenbepjpaa", sum := "46f9146611ea4f0e7903c62df503a063480991cf6cc25e681dca8e9c1d09cca6", func := "loop.example/wholenet/laws.FnWaits", spec := "fnWaits", apart := false }
def FnWaitsSaid : Prop := fnWaitsRow.holds Try.pinned (OpenSpec.ofChange fnWaitsSpec)

/-- ITS FALSE NEIGHBOUR: 'it returns false'. Refute it at one input. -/
def fnWaitsWrong : ChangeSpec := { name := "fnWaits", fn := fun _ => fun
  | [d] => { results := [.lit (.bool false)], args := [d] }
  | _ => none }
def FnWaitsWrongFalsely : Prop := fnWaitsRow.holds Try.pinned (OpenSpec.ofChange fnWaitsWrong)

/-- 'laws.FnExactJobsValid': WHATEVER THE INPUT: true; the input reads as it did. -/
def fnExactJobsValidSpec : ChangeSpec := { name := "fnExactJobsValid", fn := fun _ => fun
  | [d1, d2] => { results := [.lit (.bool true)], args := [d1, d2] }
  | _ => none }
def fnExactJobsValidRow : OpenClaim := { program := "ytpofkkenbepjpaa", sum := "46f9146611ea4f0e7903c62df503a063480991cf6cc25e681dca8e9c1d09cca6", func := "loop.example/wholenet/laws.FnExactJobsValid", spec := "fnExactJobsValid", apart := false }
def FnExactJobsValidSaid : Prop := fnExactJobsValidRow.holds Try.pinned (OpenSpec.ofChange fnExactJobsValidSpec)

/-- ITS FALSE NEIGHBOUR: 'it returns false'. Refute it at one input. -/
def fnExactJobsValidWrong : ChangeSpec := { name := "fnExactJobsValid", fn := fun _ => fun
  | [d1, d2] => { results := [.lit (.bool false)], args := [d1, d2] }
  | _ => none }
def FnExactJobsValidWrongFalsely : Prop := fnExactJobsValidRow.holds Try.pinned (OpenSpec.ofChange fnExactJobsValidWrong)

/-- 'laws.FnExactFairOrder': WHATEVER THE INPUT: true; the input reads as it did. -/
def fnExactFairOrderSpec : ChangeSpec := { name := "fnExactFairOrder", fn := fun _ => fun
  | [d1, d2] => { results := [.lit (.bool true)], args := [d1, d2] }
  | _ => none }
def fnExactFairOrderRow : OpenClaim := { program := "ytpofkkenbepjpaa", sum := "46f9146611ea4f0e7903c62df503a063480991cf6cc25e681dca8e9c1d09cca6", func := "loop.example/wholenet/laws.FnExactFairOrder", spec := "fnExactFairOrder", unfollowed := true, recurses := true, apart := false }
def FnExactFairOrderSaid : Prop := fnExactFairOrderRow.holds Try.pinned (OpenSpec.ofChange fnExactFairOrderSpec)

/-- ITS FALSE NEIGHBOUR: 'it returns false'. Refute it at one input. -/
def fnExactFairOrderWrong : ChangeSpec := { name := "fnExactFairOrder", fn := fun _ => fun
  | [d1, d2] => { results := [.lit (.bool false)], args := [d1, d2] }
  | _ => none }
def FnExactFairOrderWrongFalsely : Prop := fnExactFairOrderRow.holds Try.pinned (OpenSpec.ofChange fnExactFairOrderWrong)

/-- 'laws.FnExactStrictOrder': WHATEVER THE INPUT: true; the input reads as it did. -/
def fnExactStrictOrderSpec : ChangeSpec := { name := "fnExactStrictOrder", fn := fun _ => fun
  | [d1, d2] => { results := [.lit (.bool true)], args := [d1, d2] }
  | _ => none }
def fnExactStrictOrderRow : OpenClaim := { program := "ytpofkkenbepjpaa", sum := "46f9146611ea4f0e7903c62df503a063480991cf6cc25e681dca8e9c1d09cca6", func := "loop.example/wholenet/laws.FnExactStrictOrder", spec := "fnExactStrictOrder", unfollowed := true, recurses := true, apart := false }
def FnExactStrictOrderSaid : Prop := fnExactStrictOrderRow.holds Try.pinned (OpenSpec.ofChange fnExactStrictOrderSpec)

/-- ITS FALSE NEIGHBOUR: 'it returns false'. Refute it at one input. -/
def fnExactStrictOrderWrong : ChangeSpec := { name := "fnExactStrictOrder", fn := fun _ => fun
  | [d1, d2] => { results := [.lit (.bool false)], args := [d1, d2] }
  | _ => none }
def FnExactStrictOrderWrongFalsely : Prop := fnExactStrictOrderRow.holds Try.pinned (OpenSpec.ofChange fnExactStrictOrderWrong)

/-- 'laws.FnExactServedBy': WHATEVER THE INPUT: true; the input reads as it did. -/
def fnExactServedBySpec : ChangeSpec := { name := "fnExactServedBy", fn := fun _ => fun
  | [d1, d2, d3] => { results := [.lit (.bool true)], args := [d1, d2, d3] }
  | _ => none }
def fnExactServedByRow : OpenClaim := { program := "ytpofkkenbepjpaa", sum := "46f9146611ea4f0e7903c62df503a063480991cf6cc25e681dca8e9c1d09cca6", func := "loop.example/wholenet/laws.FnExactServedBy", spec := "fnExactServedBy", apart := false }
def FnExactServedBySaid : Prop := fnExactServedByRow.holds Try.pinned (OpenSpec.ofChange fnExactServedBySpec)

/-- ITS FALSE NEIGHBOUR: 'it returns false'. Refute it at one input. -/
def fnExactServedByWrong : ChangeSpec := { name := "fnExactServedBy", fn := fun _ => fun
  | [d1, d2, d3] => { results := [.lit (.bool false)], args := [d1, d2, d3] }
  | _ => none }
def FnExactServedByWrongFalsely : Prop := fnExactServedByRow.holds Try.pinned (OpenSpec.ofChange fnExactServedByWrong)

/-- 'laws.FnExactApartBound': WHATEVER THE INPUT: true; the input reads as it did. -/
def fnExactApartBoundSpec : ChangeSpec := { name := "fnExactApartBound", fn := fun _ => fun
  | [d1, d2, d3] => { results := [.lit (.bool true)], args := [d1, d2, d3] }
  | _ => none }
def fnExactApartBoundRow : OpenClaim := { program := "ytpofkkenbepjpaa", sum := "46f9146611ea4f0e7903c62df503a063480991cf6cc25e681dca8e9c1d09cca6", func := "loop.example/wholenet/laws.FnExactApartBound", spec := "fnExactApartBound", apart := false }
def FnExactApartBoundSaid : Prop := fnExactApartBoundRow.holds Try.pinned (OpenSpec.ofChange fnExactApartBoundSpec)

/-- ITS FALSE NEIGHBOUR: 'it returns false'. Refute it at one input. -/
def fnExactApartBoundWrong : ChangeSpec := { name := "fnExactApartBound", fn := fun _ => fun
  | [d1, d2, d3] => { results := [.lit (.bool false)], args := [d1, d2, d3] }
  | _ => none }
def FnExactApartBoundWrongFalsely : Prop := fnExactApartBoundRow.holds Try.pinned (OpenSpec.ofChange fnExactApartBoundWrong)

/-- 'laws.FnExactWaitsBefore': WHATEVER THE INPUT: true; the input reads as it did. -/
def fnExactWaitsBeforeSpec : ChangeSpec := { name := "fnExactWaitsBefore", fn := fun _ => fun
  | [d1, d2, d3] => { results := [.lit (.bool true)], args := [d1, d2, d3] }
  | _ => none }
def fnExactWaitsBeforeRow : OpenClaim := { program := "ytpofkkenbepjpaa", sum := "46f9146611ea4f0e7903c62df503a063480991cf6cc25e681dca8e9c1d09cca6", func := "loop.example/wholenet/laws.FnExactWaitsBefore", spec := "fnExactWaitsBefore", apart := false }
def FnExactWaitsBeforeSaid : Prop := fnExactWaitsBeforeRow.holds Try.pinned (OpenSpec.ofChange fnExactWaitsBeforeSpec)

/-- ITS FALSE NEIGHBOUR: 'it returns false'. Refute it at one input. -/
def fnExactWaitsBeforeWrong : ChangeSpec := { name := "fnExactWaitsBefore", fn := fun _ => fun
  | [d1, d2, d3] => { results := [.lit (.bool false)], args := [d1, d2, d3] }
  | _ => none }
def FnExactWaitsBeforeWrongFalsely : Prop := fnExactWaitsBeforeRow.holds Try.pinned (OpenSpec.ofChange fnExactWaitsBeforeWrong)

/- THE SECOND FORM. 'bulk': how many values and letters a reading holds, each counted each time it is reached (what is shared counts as often as it is met; a slice's spare places count too). A statement '..UptoSaid' is the law's where the arguments, and the package variables that the reading takes, are together of bulk at most 1048576: NARROWER than '..Said'. Prove '..Said' where nothing that the law and all that it calls make is longer than what came in: it says more and counts as full. Else prove '..UptoSaid'. A law counts once. -/
mutual
def uptoBulk {H : Type} : DataW H → Nat
  | .lit (.string bytes) => bytes.length + 1
  | .lit _ => 1
  | .nil => 1
  | .ptr d => uptoBulk d + 1
  | .slice elems spare => uptoBulkAll elems + uptoBulkAll spare + 1
  | .agg parts => uptoBulkAll parts + 1
  | .iface _ d => uptoBulk d + 1
  | .map entries => uptoBulkEntries entries + 1
  | .held _ => 1
def uptoBulkAll {H : Type} : List (DataW H) → Nat
  | [] => 0
  | d :: r => uptoBulk d + uptoBulkAll r
def uptoBulkEntries {H : Type} : List (Lit × DataW H) → Nat
  | [] => 0
  | x :: r => uptoBulkEntry x + uptoBulkEntries r
def uptoBulkEntry {H : Type} : Lit × DataW H → Nat
  | (.string bytes, d) => bytes.length + uptoBulk d + 1
  | (_, d) => uptoBulk d + 1
 end
def uptoSmall : (H : Type) → List (DataW H) → Bool := fun _ ds => decide (uptoBulkAll ds ≤ 1048576)
def OpenSpec.upto (s : _root_.Go.ChangeSpec) : _root_.Go.OpenSpec := { _root_.Go.OpenSpec.ofChange s with cond := some uptoSmall }

/-- 'laws.FnFairAll', WHERE WHAT IT READS IS OF BULK AT MOST 1048576: true; the input reads as it did. -/
def fnFairAllUptoRow : OpenClaim := { program := "ytpofkkenbepjpaa", sum := "46f9146611ea4f0e7903c62df503a063480991cf6cc25e681dca8e9c1d09cca6", func := "loop.example/wholenet/laws.FnFairAll", spec := "fnFairAll", unfollowed := true, recurses := true, apart := false, narrowed := true }
def FnFairAllUptoSaid : Prop := fnFairAllUptoRow.holds Try.pinned (OpenSpec.upto fnFairAllSpec)

/-- 'laws.FnFairApart', WHERE WHAT IT READS IS OF BULK AT MOST 1048576: true; the input reads as it did. -/
def fnFairApartUptoRow : OpenClaim := { program := "ytpofkkenbepjpaa", sum := "46f9146611ea4f0e7903c62df503a063480991cf6cc25e681dca8e9c1d09cca6", func := "loop.example/wholenet/laws.FnFairApart", spec := "fnFairApart", unfollowed := true, recurses := true, apart := false, narrowed := true }
def FnFairApartUptoSaid : Prop := fnFairApartUptoRow.holds Try.pinned (OpenSpec.upto fnFairApartSpec)

/-- 'laws.FnFairAlone', WHERE WHAT IT READS IS OF BULK AT MOST 1048576: true; the input reads as it did. -/
def fnFairAloneUptoRow : OpenClaim := { program := "ytpofkkenbepjpaa", sum := "46f9146611ea4f0e7903c62df503a063480991cf6cc25e681dca8e9c1d09cca6", func := "loop.example/wholenet/laws.FnFairAlone", spec := "fnFairAlone", unfollowed := true, recurses := true, apart := false, narrowed := true }
def FnFairAloneUptoSaid : Prop := fnFairAloneUptoRow.holds Try.pinned (OpenSpec.upto fnFairAloneSpec)

/-- 'laws.FnStrict', WHERE WHAT IT READS IS OF BULK AT MOST 1048576: true; the input reads as it did. -/
def fnStrictUptoRow : OpenClaim := { program := "ytpofkkenbepjpaa", sum := "46f9146611ea4f0e7903c62df503a063480991cf6cc25e681dca8e9c1d09cca6", func := "loop.example/wholenet/laws.FnStrict", spec := "fnStrict", unfollowed := true, recurses := true, apart := false, narrowed := true }
def FnStrictUptoSaid : Prop := fnStrictUptoRow.holds Try.pinned (OpenSpec.upto fnStrictSpec)

/-- 'laws.FnServed', WHERE WHAT IT READS IS OF BULK AT MOST 1048576: true; the input reads as it did. -/
def fnServedUptoRow : OpenClaim := { program := "ytpofkkenbepjpaa", sum := "46f9146611ea4f0e7903c62df503a063480991cf6cc25e681dca8e9c1d09cca6", func := "loop.example/wholenet/laws.FnServed", spec := "fnServed", apart := false, narrowed := true }
def FnServedUptoSaid : Prop := fnServedUptoRow.holds Try.pinned (OpenSpec.upto fnServedSpec)

/-- 'laws.FnApartBound', WHERE WHAT IT READS IS OF BULK AT MOST 1048576: true; the input reads as it did. -/
def fnApartBoundUptoRow : OpenClaim := { program := "ytpofkkenbepjpaa", sum := "46f9146611ea4f0e7903c62df503a063480991cf6cc25e681dca8e9c1d09cca6", func := "loop.example/wholenet/laws.FnApartBound", spec := "fnApartBound", apart := false, narrowed := true }
def FnApartBoundUptoSaid : Prop := fnApartBoundUptoRow.holds Try.pinned (OpenSpec.upto fnApartBoundSpec)

/-- 'laws.FnWaits', WHERE WHAT IT READS IS OF BULK AT MOST 1048576: true; the input reads as it did. -/
def fnWaitsUptoRow : OpenClaim := { program := "ytpofkkenbepjpaa", sum := "46f9146611ea4f0e7903c62df503a063480991cf6cc25e681dca8e9c1d09cca6", func := "loop.example/wholenet/laws.FnWaits", spec := "fnWaits", apart := false, narrowed := true }
def FnWaitsUptoSaid : Prop := fnWaitsUptoRow.holds Try.pinned (OpenSpec.upto fnWaitsSpec)

/-- 'laws.FnExactJobsValid', WHERE WHAT IT READS IS OF BULK AT MOST 1048576: true; the input reads as it did. -/
def fnExactJobsValidUptoRow : OpenClaim := { program := "ytpofkkenbepjpaa", sum := "46f9146611ea4f0e7903c62df503a063480991cf6cc25e681dca8e9c1d09cca6", func := "loop.example/wholenet/laws.FnExactJobsValid", spec := "fnExactJobsValid", apart := false, narrowed := true }
def FnExactJobsValidUptoSaid : Prop := fnExactJobsValidUptoRow.holds Try.pinned (OpenSpec.upto fnExactJobsValidSpec)

/-- 'laws.FnExactFairOrder', WHERE WHAT IT READS IS OF BULK AT MOST 1048576: true; the input reads as it did. -/
def fnExactFairOrderUptoRow : OpenClaim := { program := "ytpofkkenbepjpaa", sum := "46f9146611ea4f0e7903c62df503a063480991cf6cc25e681dca8e9c1d09cca6", func := "loop.example/wholenet/laws.FnExactFairOrder", spec := "fnExactFairOrder", unfollowed := true, recurses := true, apart := false, narrowed := true }
def FnExactFairOrderUptoSaid : Prop := fnExactFairOrderUptoRow.holds Try.pinned (OpenSpec.upto fnExactFairOrderSpec)

/-- 'laws.FnExactStrictOrder', WHERE WHAT IT READS IS OF BULK AT MOST 1048576: true; the input reads as it did. -/
def fnExactStrictOrderUptoRow : OpenClaim := { program := "ytpofkkenbepjpaa", sum := "46f9146611ea4f0e7903c62df503a063480991cf6cc25e681dca8e9c1d09cca6", func := "loop.example/wholenet/laws.FnExactStrictOrder", spec := "fnExactStrictOrder", unfollowed := true, recurses := true, apart := false, narrowed := true }
def FnExactStrictOrderUptoSaid : Prop := fnExactStrictOrderUptoRow.holds Try.pinned (OpenSpec.upto fnExactStrictOrderSpec)

/-- 'laws.FnExactServedBy', WHERE WHAT IT READS IS OF BULK AT MOST 1048576: true; the input reads as it did. -/
def fnExactServedByUptoRow : OpenClaim := { program := "ytpofkkenbepjpaa", sum := "46f9146611ea4f0e7903c62df503a063480991cf6cc25e681dca8e9c1d09cca6", func := "loop.example/wholenet/laws.FnExactServedBy", spec := "fnExactServedBy", apart := false, narrowed := true }
def FnExactServedByUptoSaid : Prop := fnExactServedByUptoRow.holds Try.pinned (OpenSpec.upto fnExactServedBySpec)

/-- 'laws.FnExactApartBound', WHERE WHAT IT READS IS OF BULK AT MOST 1048576: true; the input reads as it did. -/
def fnExactApartBoundUptoRow : OpenClaim := { program := "ytpofkkenbepjpaa", sum := "46f9146611ea4f0e7903c62df503a063480991cf6cc25e681dca8e9c1d09cca6", func := "loop.example/wholenet/laws.FnExactApartBound", spec := "fnExactApartBound", apart := false, narrowed := true }
def FnExactApartBoundUptoSaid : Prop := fnExactApartBoundUptoRow.holds Try.pinned (OpenSpec.upto fnExactApartBoundSpec)

/-- 'laws.FnExactWaitsBefore', WHERE WHAT IT READS IS OF BULK AT MOST 1048576: true; the input reads as it did. -/
def fnExactWaitsBeforeUptoRow : OpenClaim := { program := "ytpofkkenbepjpaa", sum := "46f9146611ea4f0e7903c62df503a063480991cf6cc25e681dca8e9c1d09cca6", func := "loop.example/wholenet/laws.FnExactWaitsBefore", spec := "fnExactWaitsBefore", apart := false, narrowed := true }
def FnExactWaitsBeforeUptoSaid : Prop := fnExactWaitsBeforeUptoRow.holds Try.pinned (OpenSpec.upto fnExactWaitsBeforeSpec)

end Rows
end Go.Proofs.Ytpofkkenbepjpaa

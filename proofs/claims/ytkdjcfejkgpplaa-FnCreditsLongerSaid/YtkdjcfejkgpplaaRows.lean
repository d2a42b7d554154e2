/-
  No cell of these rows narrows 'for every input' (looked for: loops, veiled, ifaces, maps, wideKeys, modest, calm, conditions, laid).
  DERIVED. THE GIVEN ROWS OF THIS SEAT. 10 by the template 'for every input the law returns true; each argument reads behind the call as it read before'; 0 by the template 'total and deterministic' (their statements: YtkdjcfejkgpplaaTotals.lean).
  GIVEN WITH THE SEED: the statements are not yours to turn. If you find one false, say at which input.
  Laid BY PROGRAM, IN A SANDBOX (cutbox-rows.mjs): the forced cells as the released guide's own fill.sh prints them over the translation 321e2691447b808c… (all of the seat's roots in one cut). By AI agents, Wed Nov 11 2026. No macro, syntax, notation, axiom, sorry.
-/
import Derived.Test.YtkdjcfejkgpplaaChecked
import GoSem.Claim
import GoSem.ClaimJoined
import GoSem.ClaimMapViews
import Derived.JoinedTies
import Derived.KernelRfl
namespace Go.Proofs.Ytkdjcfejkgpplaa
/- THE CELL 'sum', in the pinned program and in every row, IS THE sha256 OF THE DUMP (.gsa) THAT YtkdjcfejkgpplaaProg.lean LOADS. Nothing in Lean hashes anything: it is a label: what it is worth is what the hold of that sum in a sandbox is worth. -/
noncomputable def Try.pinned : Pinned := { name := "ytkdjcfejkgpplaa", sum := "321e2691447b808c7e6d23352a1c7dce23b079f5d8d362b9b7a0515643e61f86", checked := Try.checked }
namespace Rows
def none {H : Type} : Left H := { results := [], args := [] }

/-- 'laws.FnRoom': WHATEVER THE INPUT: true; the input reads as it did. -/
def fnRoomSpec : ChangeSpec := { name := "fnRoom", fn := fun _ => fun
  | [d] => { results := [.lit (.bool true)], args := [d] }
  | _ => none }
def fnRoomRow : OpenClaim := { program := "ytkdjcfejkgpplaa", sum := "321e2691447b808c7e6d23352a1c7dce23b079f5d8d362b9b7a0515643e61f86", func := "loop.example/wholenet/laws.FnRoom", spec := "fnRoom", apart := false }
def FnRoomSaid : Prop := fnRoomRow.holds Try.pinned (OpenSpec.ofChange fnRoomSpec)

/-- ITS FALSE NEIGHBOUR: 'it returns false'. Refute it at one input. -/
def fnRoomWrong : ChangeSpec := { name := "fnRoom", fn := fun _ => fun
  | [d] => { results := [.lit (.bool false)], args := [d] }
  | _ => none }
def FnRoomWrongFalsely : Prop := fnRoomRow.holds Try.pinned (OpenSpec.ofChange fnRoomWrong)

/-- 'laws.FnCreditsLonger': WHATEVER THE INPUT: true; the input reads as it did. -/
def fnCreditsLongerSpec : ChangeSpec := { name := "fnCreditsLonger", fn := fun _ => fun
  | [d] => { results := [.lit (.bool true)], args := [d] }
  | _ => none }
def fnCreditsLongerRow : OpenClaim := { program := "ytkdjcfejkgpplaa", sum := "321e2691447b808c7e6d23352a1c7dce23b079f5d8d362b9b7a0515643e61f86", func := "loop.example/wholenet/laws.FnCreditsLonger", spec := "fnCreditsLonger", apart := false }
def FnCreditsLongerSaid : Prop := fnCreditsLongerRow.holds Try.pinned (OpenSpec.ofChange fnCreditsLongerSpec)

/-- ITS FALSE NEIGHBOUR: 'it returns false'. Refute it at one input. -/
def fnCreditsLongerWrong : ChangeSpec := { name := "fnCreditsLonger", fn := fun _ => fun
  | [d] => { results := [.lit (.bool false)], args := [d] }
  | _ => none }
def FnCreditsLongerWrongFalsely : Prop := fnCreditsLongerRow.holds Try.pinned (OpenSpec.ofChange fnCreditsLongerWrong)

/-- 'laws.FnCreditsFull': WHATEVER THE INPUT: true; the input reads as it did. -/
def fnCreditsFullSpec : ChangeSpec := { name := "fnCreditsFull", fn := fun _ => fun
  | [d] => { results := [.lit (.bool true)], args := [d] }
  | _ => none }
def fnCreditsFullRow : OpenClaim := { program := "ytkdjcfejkgpplaa", sum := "321e2691447b808c7e6d23352a1c7dce23b079f5d8d362b9b7a0515643e61f86", func := "loop.example/wholenet/laws.FnCreditsFull", spec := "fnCreditsFull", apart := false }
def FnCreditsFullSaid : Prop := fnCreditsFullRow.holds Try.pinned (OpenSpec.ofChange fnCreditsFullSpec)

/-- ITS FALSE NEIGHBOUR: 'it returns false'. Refute it at one input. -/
def fnCreditsFullWrong : ChangeSpec := { name := "fnCreditsFull", fn := fun _ => fun
  | [d] => { results := [.lit (.bool false)], args := [d] }
  | _ => none }
def FnCreditsFullWrongFalsely : Prop := fnCreditsFullRow.holds Try.pinned (OpenSpec.ofChange fnCreditsFullWrong)

/-- 'laws.FnRoomFor': WHATEVER THE INPUT: true; the input reads as it did. -/
def fnRoomForSpec : ChangeSpec := { name := "fnRoomFor", fn := fun _ => fun
  | [d] => { results := [.lit (.bool true)], args := [d] }
  | _ => none }
def fnRoomForRow : OpenClaim := { program := "ytkdjcfejkgpplaa", sum := "321e2691447b808c7e6d23352a1c7dce23b079f5d8d362b9b7a0515643e61f86", func := "loop.example/wholenet/laws.FnRoomFor", spec := "fnRoomFor", apart := false }
def FnRoomForSaid : Prop := fnRoomForRow.holds Try.pinned (OpenSpec.ofChange fnRoomForSpec)

/-- ITS FALSE NEIGHBOUR: 'it returns false'. Refute it at one input. -/
def fnRoomForWrong : ChangeSpec := { name := "fnRoomFor", fn := fun _ => fun
  | [d] => { results := [.lit (.bool false)], args := [d] }
  | _ => none }
def FnRoomForWrongFalsely : Prop := fnRoomForRow.holds Try.pinned (OpenSpec.ofChange fnRoomForWrong)

/-- 'laws.FnOpen': WHATEVER THE INPUT: true; the input reads as it did. -/
def fnOpenSpec : ChangeSpec := { name := "fnOpen", fn := fun _ => fun
  | [d] => { results := [.lit (.bool true)], args := [d] }
  | _ => none }
def fnOpenRow : OpenClaim := { program := "ytkdjcfejkgpplaa", sum := "321e2691447b808c7e6d23352a1c7dce23b079f5d8d362b9b7a0515643e61f86", func := "loop.example/wholenet/laws.FnOpen", spec := "fnOpen", apart := false }
def FnOpenSaid : Prop := fnOpenRow.holds Try.pinned (OpenSpec.ofChange fnOpenSpec)

/-- ITS FALSE NEIGHBOUR: 'it returns false'. Refute it at one input. -/
def fnOpenWrong : ChangeSpec := { name := "fnOpen", fn := fun _ => fun
  | [d] => { results := [.lit (.bool false)], args := [d] }
  | _ => none }
def FnOpenWrongFalsely : Prop := fnOpenRow.holds Try.pinned (OpenSpec.ofChange fnOpenWrong)

/-- 'laws.FnDrainAll': WHATEVER THE INPUT: true; the input reads as it did. -/
def fnDrainAllSpec : ChangeSpec := { name := "fnDrainAll", fn := fun _ => fun
  | [d] => { results := [.lit (.bool true)], args := [d] }
  | _ => none }
def fnDrainAllRow : OpenClaim := { program := "ytkdjcfejkgpplaa", sum := "321e2691447b808c7e6d23352a1c7dce23b079f5d8d362b9b7a0515643e61f86", func := "loop.example/wholenet/laws.FnDrainAll", spec := "fnDrainAll", apart := false }
def FnDrainAllSaid : Prop := fnDrainAllRow.holds Try.pinned (OpenSpec.ofChange fnDrainAllSpec)

/-- ITS FALSE NEIGHBOUR: 'it returns false'. Refute it at one input. -/
def fnDrainAllWrong : ChangeSpec := { name := "fnDrainAll", fn := fun _ => fun
  | [d] => { results := [.lit (.bool false)], args := [d] }
  | _ => none }
def FnDrainAllWrongFalsely : Prop := fnDrainAllRow.holds Try.pinned (OpenSpec.ofChange fnDrainAllWrong)

/-- 'laws.FnExactRunCredits': WHATEVER THE INPUT: true; the input reads as it did. -/
def fnExactRunCreditsSpec : ChangeSpec := { name := "fnExactRunCredits", fn := fun _ => fun
  | [d1, d2, d3, d4, d5] => { results := [.lit (.bool true)], args := [d1, d2, d3, d4, d5] }
  | _ => none }
def fnExactRunCreditsRow : OpenClaim := { program := "ytkdjcfejkgpplaa", sum := "321e2691447b808c7e6d23352a1c7dce23b079f5d8d362b9b7a0515643e61f86", func := "loop.example/wholenet/laws.FnExactRunCredits", spec := "fnExactRunCredits", apart := false }
def FnExactRunCreditsSaid : Prop := fnExactRunCreditsRow.holds Try.pinned (OpenSpec.ofChange fnExactRunCreditsSpec)

/-- ITS FALSE NEIGHBOUR: 'it returns false'. Refute it at one input. -/
def fnExactRunCreditsWrong : ChangeSpec := { name := "fnExactRunCredits", fn := fun _ => fun
  | [d1, d2, d3, d4, d5] => { results := [.lit (.bool false)], args := [d1, d2, d3, d4, d5] }
  | _ => none }
def FnExactRunCreditsWrongFalsely : Prop := fnExactRunCreditsRow.holds Try.pinned (OpenSpec.ofChange fnExactRunCreditsWrong)

/-- 'laws.FnExactCreditSlots': WHATEVER THE INPUT: true; the input reads as it did. -/
def fnExactCreditSlotsSpec : ChangeSpec := { name := "fnExactCreditSlots", fn := fun _ => fun
  | [d1, d2, d3] => { results := [.lit (.bool true)], args := [d1, d2, d3] }
  | _ => none }
def fnExactCreditSlotsRow : OpenClaim := { program := "ytkdjcfejkgpplaa", sum := "321e2691447b808c7e6d23352a1c7dce23b079f5d8d362b9b7a0515643e61f86", func := "loop.example/wholenet/laws.FnExactCreditSlots", spec := "fnExactCreditSlots", apart := false }
def FnExactCreditSlotsSaid : Prop := fnExactCreditSlotsRow.holds Try.pinned (OpenSpec.ofChange fnExactCreditSlotsSpec)

/-- ITS FALSE NEIGHBOUR: 'it returns false'. Refute it at one input. -/
def fnExactCreditSlotsWrong : ChangeSpec := { name := "fnExactCreditSlots", fn := fun _ => fun
  | [d1, d2, d3] => { results := [.lit (.bool false)], args := [d1, d2, d3] }
  | _ => none }
def FnExactCreditSlotsWrongFalsely : Prop := fnExactCreditSlotsRow.holds Try.pinned (OpenSpec.ofChange fnExactCreditSlotsWrong)

/-- 'laws.FnExactRoomFor': WHATEVER THE INPUT: true; the input reads as it did. -/
def fnExactRoomForSpec : ChangeSpec := { name := "fnExactRoomFor", fn := fun _ => fun
  | [d] => { results := [.lit (.bool true)], args := [d] }
  | _ => none }
def fnExactRoomForRow : OpenClaim := { program := "ytkdjcfejkgpplaa", sum := "321e2691447b808c7e6d23352a1c7dce23b079f5d8d362b9b7a0515643e61f86", func := "loop.example/wholenet/laws.FnExactRoomFor", spec := "fnExactRoomFor", apart := false }
def FnExactRoomForSaid : Prop := fnExactRoomForRow.holds Try.pinned (OpenSpec.ofChange fnExactRoomForSpec)

/-- ITS FALSE NEIGHBOUR: 'it returns false'. Refute it at one input. -/
def fnExactRoomForWrong : ChangeSpec := { name := "fnExactRoomFor", fn := fun _ => fun
  | [d] => { results := [.lit (.bool false)], args := [d] }
  | _ => none }
def FnExactRoomForWrongFalsely : Prop := fnExactRoomForRow.holds Try.pinned (OpenSpec.ofChange fnExactRoomForWrong)

/-- 'laws.FnExactOpenSlots': WHATEVER THE INPUT: true; the input reads as it did. -/
def fnExactOpenSlotsSpec : ChangeSpec := { name := "fnExactOpenSlots", fn := fun _ => fun
  | [d1, d2, d3] => { results := [.lit (.bool true)], args := [d1, d2, d3] }
  | _ => none }
def fnExactOpenSlotsRow : OpenClaim := { program := "ytkdjcfejkgpplaa", sum := "321e2691447b808c7e6d23352a1c7dce23b079f5d8d362b9b7a0515643e61f86", func := "loop.example/wholenet/laws.FnExactOpenSlots", spec := "fnExactOpenSlots", apart := false }
def FnExactOpenSlotsSaid : Prop := fnExactOpenSlotsRow.holds Try.pinned (OpenSpec.ofChange fnExactOpenSlotsSpec)

/-- ITS FALSE NEIGHBOUR: 'it returns false'. Refute it at one input. -/
def fnExactOpenSlotsWrong : ChangeSpec := { name := "fnExactOpenSlots", fn := fun _ => fun
  | [d1, d2, d3] => { results := [.lit (.bool false)], args := [d1, d2, d3] }
  | _ => none }
def FnExactOpenSlotsWrongFalsely : Prop := fnExactOpenSlotsRow.holds Try.pinned (OpenSpec.ofChange fnExactOpenSlotsWrong)

/- THE SECOND FORM. 'bulk': how many values and letters a reading holds, each counted each time it is reached (what is shared counts as often as it is met; a slice's spare places count too). A statement '..UptoSaid' is the law's where the arguments, and the package variables that the reading takes, are together of bulk at most 1048576: NARROWER than '..Said'. Prove '..Said' where nothing that the law and all that it calls make is longer than what came in: it says more and counts as full. Else prove '..UptoSaid'. A law counts once. -/
mutual
def uptoBulk {H : Type} : DataW H → Nat
  | .lit (.string bytes) => bytes.length + 1
  | .lit _ => 1
  | .nil => 1
  | .ptr d => uptoBulk d + 1
  | .slice elems spare => uptoBulkAll elems + uptoBulkAll spare + 1
  | .agg parts => uptoBulkAll parts + 1
  | .iface _ d => uptoBulk d + 1
  | .map entries => uptoBulkEntries entries + 1
  | .held _ => 1
def uptoBulkAll {H : Type} : List (DataW H) → Nat
  | [] => 0
  | d :: r => uptoBulk d + uptoBulkAll r
def uptoBulkEntries {H : Type} : List (Lit × DataW H) → Nat
  | [] => 0
  | x :: r => uptoBulkEntry x + uptoBulkEntries r
def uptoBulkEntry {H : Type} : Lit × DataW H → Nat
  | (.string bytes, d) => bytes.length + uptoBulk d + 1
  | (_, d) => uptoBulk d + 1
 end
def uptoSmall : (H : Type) → List (DataW H) → Bool := fun _ ds => decide (uptoBulkAll ds ≤ 1048576)
def OpenSpec.upto (s : _root_.Go.ChangeSpec) : _root_.Go.OpenSpec := { _root_.Go.OpenSpec.ofChange s with cond := some uptoSmall }

/-- 'laws.FnRoom', WHERE WHAT IT READS IS OF BULK AT MOST 1048576: true; the input reads as it did. -/
def fnRoomUptoRow : OpenClaim := { program := "ytkdjcfejkgpplaa", sum := "321e2691447b808c7e6d23352a1c7dce23b079f5d8d362b9b7a0515643e61f86", func := "loop.example/wholenet/laws.FnRoom", spec := "fnRoom", apart := false, narrowed := true }
def FnRoomUptoSaid : Prop := fnRoomUptoRow.holds Try.pinned (OpenSpec.upto fnRoomSpec)

/-- 'laws.FnCreditsLonger', WHERE WHAT IT READS IS OF BULK AT MOST 1048576: true; the input reads as it did. -/
def fnCreditsLongerUptoRow : OpenClaim := { program := "ytkdjcfejkgpplaa", sum := "321e2691447b808c7e6d23352a1c7dce23b079f5d8d362b9b7a0515643e61f86", func := "loop.example/wholenet/laws.FnCreditsLonger", spec := "fnCreditsLonger", apart := false, narrowed := true }
def FnCreditsLongerUptoSaid : Prop := fnCreditsLongerUptoRow.holds Try.pinned (OpenSpec.upto fnCreditsLongerSpec)

/-- 'laws.FnCreditsFull', WHERE WHAT IT READS IS OF BULK AT MOST 1048576: true; the input reads as it did. -/
def fnCreditsFullUptoRow : OpenClaim := { program := "ytkdjcfejkgpplaa", sum := "321e2691447b808c7e6d23352a1c7dce23b079f5d8d362b9b7a0515643e61f86", func := "loop.example/wholenet/laws.FnCreditsFull", spec := "fnCreditsFull", apart := false, narrowed := true }
def FnCreditsFullUptoSaid : Prop := fnCreditsFullUptoRow.holds Try.pinned (OpenSpec.upto fnCreditsFullSpec)

/-- 'laws.FnRoomFor', WHERE WHAT IT READS IS OF BULK AT MOST 1048576: true; the input reads as it did. -/
def fnRoomForUptoRow : OpenClaim := { program := "ytkdjcfejkgpplaa", sum := "321e2691447b808c7e6d23352a1c7dce23b079f5d8d362b9b7a0515643e61f86", func := "loop.example/wholenet/laws.FnRoomFor", spec := "fnRoomFor", apart := false, narrowed := true }
def FnRoomForUptoSaid : Prop := fnRoomForUptoRow.holds Try.pinned (OpenSpec.upto fnRoomForSpec)

/-- 'laws.FnOpen', WHERE WHAT IT READS IS OF BULK AT MOST 1048576: true; the input reads as it did. -/
def fnOpenUptoRow : OpenClaim := { program := "ytkdjcfejkgpplaa", sum := "321e2691447b808c7e6d23352a1c7dce23b079f5d8d362b9b7a0515643e61f86", func := "loop.example/wholenet/laws.FnOpen", spec := "fnOpen", apart := false, narrowed := true }
def FnOpenUptoSaid : Prop := fnOpenUptoRow.holds Try.pinned (OpenSpec.upto fnOpenSpec)

/-- 'laws.FnDrainAll', WHERE WHAT IT READS IS OF BULK AT MOST 1048576: true; the input reads as it did. -/
def fnDrainAllUptoRow : OpenClaim := { program := "ytkdjcfejkgpplaa", sum := "321e2691447b808c7e6d23352a1c7dce23b079f5d8d362b9b7a0515643e61f86", func := "loop.example/wholenet/laws.FnDrainAll", spec := "fnDrainAll", apart := false, narrowed := true }
def FnDrainAllUptoSaid : Prop := fnDrainAllUptoRow.holds Try.pinned (OpenSpec.upto fnDrainAllSpec)

/-- 'laws.FnExactRunCredits', WHERE WHAT IT READS IS OF BULK AT MOST 1048576: true; the input reads as it did. -/
def fnExactRunCreditsUptoRow : OpenClaim := { program := "ytkdjcfejkgpplaa", sum := "321e2691447b808c7e6d23352a1c7dce23b079f5d8d362b9b7a0515643e61f86", func := "loop.example/wholenet/laws.FnExactRunCredits", spec := "fnExactRunCredits", apart := false, narrowed := true }
def FnExactRunCreditsUptoSaid : Prop := fnExactRunCreditsUptoRow.holds Try.pinned (OpenSpec.upto fnExactRunCreditsSpec)

/-- 'laws.FnExactCreditSlots', WHERE WHAT IT READS IS OF BULK AT MOST 1048576: true; the input reads as it did. -/
def fnExactCreditSlotsUptoRow : OpenClaim := { program := "ytkdjcfejkgpplaa", sum := "321e2691447b808c7e6d23352a1c7dce23b079f5d8d362b9b7a0515643e61f86", func := "loop.example/wholenet/laws.FnExactCreditSlots", spec := "fnExactCreditSlots", apart := false, narrowed := true }
def FnExactCreditSlotsUptoSaid : Prop := fnExactCreditSlotsUptoRow.holds Try.pinned (OpenSpec.upto fnExactCreditSlotsSpec)

/-- 'laws.FnExactRoomFor', WHERE WHAT IT READS IS OF BULK AT MOST 1048576: true; the input reads as it did. -/
def fnExactRoomForUptoRow : OpenClaim := { program := "ytkdjcfejkgpplaa", sum := "321e2691447b808c7e6d23352a1c7dce23b079f5d8d362b9b7a0515643e61f86", func := "loop.example/wholenet/laws.FnExactRoomFor", spec := "fnExactRoomFor", apart := false, narrowed := true }
def FnExactRoomForUptoSaid : Prop := fnExactRoomForUptoRow.holds Try.pinned (OpenSpec.upto fnExactRoomForSpec)

/-- 'laws.FnExactOpenSlots', WHERE WHAT IT READS IS OF BULK AT MOST 1048576: true; the input reads as it did. -/
def fnExactOpenSlotsUptoRow : OpenClaim := { program := "ytkdjcfejkgpplaa", sum := "321e2691447b808c7e6d23352a1c7dce23b079f5d8d362b9b7a0515643e61f86", func := "loop.example/wholenet/laws.FnExactOpenSlots", spec := "fnExactOpenSlots", apart := false, narrowed := true }
def FnExactOpenSlotsUptoSaid : Prop := fnExactOpenSlotsUptoRow.holds Try.pinned (OpenSpec.upto fnExactOpenSlotsSpec)

end Rows
end Go.Proofs.Ytkdjcfejkgpplaa

/-
  No cell of these rows narrows 'for every input' (looked for: loops, veiled, ifaces, maps, wideKeys, modest, calm, conditions, laid).
  DERIVED. THE GIVEN ROWS OF THIS SEAT. 12 by the template 'for every input the law returns true; each argument reads behind the call as it read before'; 0 by the template 'total and deterministic' (their statements: YtiokieancjigeaaTotals.lean).
  GIVEN WITH THE SEED: the statements are not yours to turn. If you find one false, say at which input.
  Laid BY PROGRAM, IN A SANDBOX (cutbox-rows.mjs): the forced cells as the released guide's own fill.sh prints them over the translation 0752103afa0988f0… (all of the seat's roots in one cut). By AI agents, Wed Nov 11 2026. No macro, syntax, notation, axiom, sorry.
-/
import Derived.Test.YtiokieancjigeaaChecked
import GoSem.Claim
import GoSem.ClaimJoined
import GoSem.ClaimMapViews
import Derived.JoinedTies
import Derived.KernelRfl
namespace Go.Proofs.Ytiokieancjigeaa
/- THE CELL 'sum', in the pinned program and in every row, IS THE sha256 OF THE DUMP (.gsa) THAT YtiokieancjigeaaProg.lean LOADS. Nothing in Lean hashes anything: it is a label: what it is worth is what the hold of that sum in a sandbox is worth. -/
noncomputable def Try.pinned : Pinned := { name := "ytiokieancjigeaa", sum := "0752103afa0988f0d05925cdf869c353d5413640e926a25439a9017174355d3f", checked := Try.checked }
namespace Rows
def none {H : Type} : Left H := { results := [], args := [] }

/-- 'laws.FnVlanBack': WHATEVER THE INPUT: true; the input reads as it did. -/
def fnVlanBackSpec : ChangeSpec := { name := "fnVlanBack", fn := fun _ => fun
  | [d] => { results := [.lit (.bool true)], args := [d] }
  | _ => none }
def fnVlanBackRow : OpenClaim := { program := "ytiokieancjigeaa", sum := "0752103afa0988f0d05925cdf869c353d5413640e926a25439a9017174355d3f", func := "loop.example/wholenet/laws.FnVlanBack", spec := "fnVlanBack", unfollowed := true, recurses := true, apart := false }
def FnVlanBackSaid : Prop := fnVlanBackRow.holds Try.pinned (OpenSpec.ofChange fnVlanBackSpec)

/-- ITS FALSE NEIGHBOUR: 'it returns false'. Refute it at one input. -/
def fnVlanBackWrong : ChangeSpec := { name := "fnVlanBack", fn := fun _ => fun
  | [d] => { results := [.lit (.bool false)], args := [d] }
  | _ => none }
def FnVlanBackWrongFalsely : Prop := fnVlanBackRow.holds Try.pinned (OpenSpec.ofChange fnVlanBackWrong)

/-- 'laws.FnVlanIn': WHATEVER THE INPUT: true; the input reads as it did. -/
def fnVlanInSpec : ChangeSpec := { name := "fnVlanIn", fn := fun _ => fun
  | [d] => { results := [.lit (.bool true)], args := [d] }
  | _ => none }
def fnVlanInRow : OpenClaim := { program := "ytiokieancjigeaa", sum := "0752103afa0988f0d05925cdf869c353d5413640e926a25439a9017174355d3f", func := "loop.example/wholenet/laws.FnVlanIn", spec := "fnVlanIn", unfollowed := true, recurses := true, apart := false }
def FnVlanInSaid : Prop := fnVlanInRow.holds Try.pinned (OpenSpec.ofChange fnVlanInSpec)

/-- ITS FALSE NEIGHBOUR: 'it returns false'. Refute it at one input. -/
def fnVlanInWrong : ChangeSpec := { name := "fnVlanIn", fn := fun _ => fun
  | [d] => { results := [.lit (.bool false)], args := [d] }
  | _ => none }
def FnVlanInWrongFalsely : Prop := fnVlanInRow.holds Try.pinned (OpenSpec.ofChange fnVlanInWrong)

/-- 'laws.FnVlanStays': WHATEVER THE INPUT: true; the input reads as it did. -/
def fnVlanStaysSpec : ChangeSpec := { name := "fnVlanStays", fn := fun _ => fun
  | [d] => { results := [.lit (.bool true)], args := [d] }
  | _ => none }
def fnVlanStaysRow : OpenClaim := { program := "ytiokieancjigeaa", sum := "0752103afa0988f0d05925cdf869c353d5413640e926a25439a9017174355d3f", func := "loop.example/wholenet/laws.FnVlanStays", spec := "fnVlanStays", unfollowed := true, recurses := true, apart := false }
def FnVlanStaysSaid : Prop := fnVlanStaysRow.holds Try.pinned (OpenSpec.ofChange fnVlanStaysSpec)

/-- ITS FALSE NEIGHBOUR: 'it returns false'. Refute it at one input. -/
def fnVlanStaysWrong : ChangeSpec := { name := "fnVlanStays", fn := fun _ => fun
  | [d] => { results := [.lit (.bool false)], args := [d] }
  | _ => none }
def FnVlanStaysWrongFalsely : Prop := fnVlanStaysRow.holds Try.pinned (OpenSpec.ofChange fnVlanStaysWrong)

/-- 'laws.FnVlanAll': WHATEVER THE INPUT: true; the input reads as it did. -/
def fnVlanAllSpec : ChangeSpec := { name := "fnVlanAll", fn := fun _ => fun
  | [d] => { results := [.lit (.bool true)], args := [d] }
  | _ => none }
def fnVlanAllRow : OpenClaim := { program := "ytiokieancjigeaa", sum := "0752103afa0988f0d05925cdf869c353d5413640e926a25439a9017174355d3f", func := "loop.example/wholenet/laws.FnVlanAll", spec := "fnVlanAll", unfollowed := true, recurses := true, apart := false }
def FnVlanAllSaid : Prop := fnVlanAllRow.holds Try.pinned (OpenSpec.ofChange fnVlanAllSpec)

/-- ITS FALSE NEIGHBOUR: 'it returns false'. Refute it at one input. -/
def fnVlanAllWrong : ChangeSpec := { name := "fnVlanAll", fn := fun _ => fun
  | [d] => { results := [.lit (.bool false)], args := [d] }
  | _ => none }
def FnVlanAllWrongFalsely : Prop := fnVlanAllRow.holds Try.pinned (OpenSpec.ofChange fnVlanAllWrong)

/-- 'laws.FnVlanReturn': WHATEVER THE INPUT: true; the input reads as it did. -/
def fnVlanReturnSpec : ChangeSpec := { name := "fnVlanReturn", fn := fun _ => fun
  | [d] => { results := [.lit (.bool true)], args := [d] }
  | _ => none }
def fnVlanReturnRow : OpenClaim := { program := "ytiokieancjigeaa", sum := "0752103afa0988f0d05925cdf869c353d5413640e926a25439a9017174355d3f", func := "loop.example/wholenet/laws.FnVlanReturn", spec := "fnVlanReturn", unfollowed := true, recurses := true, apart := false }
def FnVlanReturnSaid : Prop := fnVlanReturnRow.holds Try.pinned (OpenSpec.ofChange fnVlanReturnSpec)

/-- ITS FALSE NEIGHBOUR: 'it returns false'. Refute it at one input. -/
def fnVlanReturnWrong : ChangeSpec := { name := "fnVlanReturn", fn := fun _ => fun
  | [d] => { results := [.lit (.bool false)], args := [d] }
  | _ => none }
def FnVlanReturnWrongFalsely : Prop := fnVlanReturnRow.holds Try.pinned (OpenSpec.ofChange fnVlanReturnWrong)

/-- 'laws.FnApart': WHATEVER THE INPUT: true; the input reads as it did. -/
def fnApartSpec : ChangeSpec := { name := "fnApart", fn := fun _ => fun
  | [d] => { results := [.lit (.bool true)], args := [d] }
  | _ => none }
def fnApartRow : OpenClaim := { program := "ytiokieancjigeaa", sum := "0752103afa0988f0d05925cdf869c353d5413640e926a25439a9017174355d3f", func := "loop.example/wholenet/laws.FnApart", spec := "fnApart", unfollowed := true, recurses := true, apart := false }
def FnApartSaid : Prop := fnApartRow.holds Try.pinned (OpenSpec.ofChange fnApartSpec)

/-- ITS FALSE NEIGHBOUR: 'it returns false'. Refute it at one input. -/
def fnApartWrong : ChangeSpec := { name := "fnApart", fn := fun _ => fun
  | [d] => { results := [.lit (.bool false)], args := [d] }
  | _ => none }
def FnApartWrongFalsely : Prop := fnApartRow.holds Try.pinned (OpenSpec.ofChange fnApartWrong)

/-- 'laws.FnExactVPortsValid': WHATEVER THE INPUT: true; the input reads as it did. -/
def fnExactVPortsValidSpec : ChangeSpec := { name := "fnExactVPortsValid", fn := fun _ => fun
  | [d] => { results := [.lit (.bool true)], args := [d] }
  | _ => none }
def fnExactVPortsValidRow : OpenClaim := { program := "ytiokieancjigeaa", sum := "0752103afa0988f0d05925cdf869c353d5413640e926a25439a9017174355d3f", func := "loop.example/wholenet/laws.FnExactVPortsValid", spec := "fnExactVPortsValid", apart := false }
def FnExactVPortsValidSaid : Prop := fnExactVPortsValidRow.holds Try.pinned (OpenSpec.ofChange fnExactVPortsValidSpec)

/-- ITS FALSE NEIGHBOUR: 'it returns false'. Refute it at one input. -/
def fnExactVPortsValidWrong : ChangeSpec := { name := "fnExactVPortsValid", fn := fun _ => fun
  | [d] => { results := [.lit (.bool false)], args := [d] }
  | _ => none }
def FnExactVPortsValidWrongFalsely : Prop := fnExactVPortsValidRow.holds Try.pinned (OpenSpec.ofChange fnExactVPortsValidWrong)

/-- 'laws.FnExactVlanIn': WHATEVER THE INPUT: true; the input reads as it did. -/
def fnExactVlanInSpec : ChangeSpec := { name := "fnExactVlanIn", fn := fun _ => fun
  | [d1, d2] => { results := [.lit (.bool true)], args := [d1, d2] }
  | _ => none }
def fnExactVlanInRow : OpenClaim := { program := "ytiokieancjigeaa", sum := "0752103afa0988f0d05925cdf869c353d5413640e926a25439a9017174355d3f", func := "loop.example/wholenet/laws.FnExactVlanIn", spec := "fnExactVlanIn", unfollowed := true, recurses := true, apart := false }
def FnExactVlanInSaid : Prop := fnExactVlanInRow.holds Try.pinned (OpenSpec.ofChange fnExactVlanInSpec)

/-- ITS FALSE NEIGHBOUR: 'it returns false'. Refute it at one input. -/
def fnExactVlanInWrong : ChangeSpec := { name := "fnExactVlanIn", fn := fun _ => fun
  | [d1, d2] => { results := [.lit (.bool false)], args := [d1, d2] }
  | _ => none }
def FnExactVlanInWrongFalsely : Prop := fnExactVlanInRow.holds Try.pinned (OpenSpec.ofChange fnExactVlanInWrong)

/-- 'laws.FnExactTagOut': WHATEVER THE INPUT: true; the input reads as it did. -/
def fnExactTagOutSpec : ChangeSpec := { name := "fnExactTagOut", fn := fun _ => fun
  | [d1, d2] => { results := [.lit (.bool true)], args := [d1, d2] }
  | _ => none }
def fnExactTagOutRow : OpenClaim := { program := "ytiokieancjigeaa", sum := "0752103afa0988f0d05925cdf869c353d5413640e926a25439a9017174355d3f", func := "loop.example/wholenet/laws.FnExactTagOut", spec := "fnExactTagOut", unfollowed := true, recurses := true, apart := false }
def FnExactTagOutSaid : Prop := fnExactTagOutRow.holds Try.pinned (OpenSpec.ofChange fnExactTagOutSpec)

/-- ITS FALSE NEIGHBOUR: 'it returns false'. Refute it at one input. -/
def fnExactTagOutWrong : ChangeSpec := { name := "fnExactTagOut", fn := fun _ => fun
  | [d1, d2] => { results := [.lit (.bool false)], args := [d1, d2] }
  | _ => none }
def FnExactTagOutWrongFalsely : Prop := fnExactTagOutRow.holds Try.pinned (OpenSpec.ofChange fnExactTagOutWrong)

/-- 'laws.FnExactPortsOn': WHATEVER THE INPUT: true; the input reads as it did. -/
def fnExactPortsOnSpec : ChangeSpec := { name := "fnExactPortsOn", fn := fun _ => fun
  | [d1, d2] => { results := [.lit (.bool true)], args := [d1, d2] }
  | _ => none }
def fnExactPortsOnRow : OpenClaim := { program := "ytiokieancjigeaa", sum := "0752103afa0988f0d05925cdf869c353d5413640e926a25439a9017174355d3f", func := "loop.example/wholenet/laws.FnExactPortsOn", spec := "fnExactPortsOn", unfollowed := true, recurses := true, apart := false }
def FnExactPortsOnSaid : Prop := fnExactPortsOnRow.holds Try.pinned (OpenSpec.ofChange fnExactPortsOnSpec)

/-- ITS FALSE NEIGHBOUR: 'it returns false'. Refute it at one input. -/
def fnExactPortsOnWrong : ChangeSpec := { name := "fnExactPortsOn", fn := fun _ => fun
  | [d1, d2] => { results := [.lit (.bool false)], args := [d1, d2] }
  | _ => none }
def FnExactPortsOnWrongFalsely : Prop := fnExactPortsOnRow.holds Try.pinned (OpenSpec.ofChange fnExactPortsOnWrong)

/-- 'laws.FnExactFloodVlan': WHATEVER THE INPUT: true; the input reads as it did. -/
def fnExactFloodVlanSpec : ChangeSpec := { name := "fnExactFloodVlan", fn := fun _ => fun
  | [d1, d2, d3] => { results := [.lit (.bool true)], args := [d1, d2, d3] }
  | _ => none }
def fnExactFloodVlanRow : OpenClaim := { program := "ytiokieancjigeaa", sum := "0752103afa0988f0d05925cdf869c353d5413640e926a25439a9017174355d3f", func := "loop.example/wholenet/laws.FnExactFloodVlan", spec := "fnExactFloodVlan", unfollowed := true, recurses := true, apart := false }
def FnExactFloodVlanSaid : Prop := fnExactFloodVlanRow.holds Try.pinned (OpenSpec.ofChange fnExactFloodVlanSpec)

/-- ITS FALSE NEIGHBOUR: 'it returns false'. Refute it at one input. -/
def fnExactFloodVlanWrong : ChangeSpec := { name := "fnExactFloodVlan", fn := fun _ => fun
  | [d1, d2, d3] => { results := [.lit (.bool false)], args := [d1, d2, d3] }
  | _ => none }
def FnExactFloodVlanWrongFalsely : Prop := fnExactFloodVlanRow.holds Try.pinned (OpenSpec.ofChange fnExactFloodVlanWrong)

/-- 'laws.FnExactApartFrom': WHATEVER THE INPUT: true; the input reads as it did. -/
def fnExactApartFromSpec : ChangeSpec := { name := "fnExactApartFrom", fn := fun _ => fun
  | [d1, d2] => { results := [.lit (.bool true)], args := [d1, d2] }
  | _ => none }
def fnExactApartFromRow : OpenClaim := { program := "ytiokieancjigeaa", sum := "0752103afa0988f0d05925cdf869c353d5413640e926a25439a9017174355d3f", func := "loop.example/wholenet/laws.FnExactApartFrom", spec := "fnExactApartFrom", unfollowed := true, recurses := true, apart := false }
def FnExactApartFromSaid : Prop := fnExactApartFromRow.holds Try.pinned (OpenSpec.ofChange fnExactApartFromSpec)

/-- ITS FALSE NEIGHBOUR: 'it returns false'. Refute it at one input. -/
def fnExactApartFromWrong : ChangeSpec := { name := "fnExactApartFrom", fn := fun _ => fun
  | [d1, d2] => { results := [.lit (.bool false)], args := [d1, d2] }
  | _ => none }
def FnExactApartFromWrongFalsely : Prop := fnExactApartFromRow.holds Try.pinned (OpenSpec.ofChange fnExactApartFromWrong)

/- THE SECOND FORM. 'bulk': how many values and letters a reading holds, each counted each time it is reached (what is shared counts as often as it is met; a slice's spare places count too). A statement '..UptoSaid' is the law's where the arguments, and the package variables that the reading takes, are together of bulk at most 1048576: NARROWER than '..Said'. Prove '..Said' where nothing that the law and all that it calls make is longer than what came in: it says more and counts as full. Else prove '..UptoSaid'. A law counts once. -/
mutual
def uptoBulk {H : Type} : DataW H → Nat
  | .lit (.string bytes) => bytes.length + 1
  | .lit _ => 1
  | .nil => 1
  | .ptr d => uptoBulk d + 1
  | .slice elems spare => uptoBulkAll elems + uptoBulkAll spare + 1
  | .agg parts => uptoBulkAll parts + 1
  | .iface _ d => uptoBulk d + 1
  | .map entries => uptoBulkEntries entries + 1
  | .held _ => 1
def uptoBulkAll {H : Type} : List (DataW H) → Nat
  | [] => 0
  | d :: r => uptoBulk d + uptoBulkAll r
def uptoBulkEntries {H : Type} : List (Lit × DataW H) → Nat
  | [] => 0
  | x :: r => uptoBulkEntry x + uptoBulkEntries r
def uptoBulkEntry {H : Type} : Lit × DataW H → Nat
  | (.string bytes, d) => bytes.length + uptoBulk d + 1
  | (_, d) => uptoBulk d + 1
 end
def uptoSmall : (H : Type) → List (DataW H) → Bool := fun _ ds => decide (uptoBulkAll ds ≤ 1048576)
def OpenSpec.upto (s : _root_.Go.ChangeSpec) : _root_.Go.OpenSpec := { _root_.Go.OpenSpec.ofChange s with cond := some uptoSmall }

/-- 'laws.FnVlanBack', WHERE WHAT IT READS IS OF BULK AT MOST 1048576: true; the input reads as it did. -/
def fnVlanBackUptoRow : OpenClaim := { program := "ytiokieancjigeaa", sum := "0752103afa0988f0d05925cdf869c353d5413640e926a25439a9017174355d3f", func := "loop.example/wholenet/laws.FnVlanBack", spec := "fnVlanBack", unfollowed := true, recurses := true, apart := false, narrowed := true }
def FnVlanBackUptoSaid : Prop := fnVlanBackUptoRow.holds Try.pinned (OpenSpec.upto fnVlanBackSpec)

/-- 'laws.FnVlanIn', WHERE WHAT IT READS IS OF BULK AT MOST 1048576: true; the input reads as it did. -/
def fnVlanInUptoRow : OpenClaim := { program := "ytiokieancjigeaa", sum := "0752103afa0988f0d05925cdf869c353d5413640e926a25439a9017174355d3f", func := "loop.example/wholenet/laws.FnVlanIn", spec := "fnVlanIn", unfollowed := true, recurses := true, apart := false, narrowed := true }
def FnVlanInUptoSaid : Prop := fnVlanInUptoRow.holds Try.pinned (OpenSpec.upto fnVlanInSpec)

/-- 'laws.FnVlanStays', WHERE WHAT IT READS IS OF BULK AT MOST 1048576: true; the input reads as it did. -/
def fnVlanStaysUptoRow : OpenClaim := { program := "ytiokieancjigeaa", sum := "0752103afa0988f0d05925cdf869c353d5413640e926a25439a9017174355d3f", func := "loop.example/wholenet/laws.FnVlanStays", spec := "fnVlanStays", unfollowed := true, recurses := true, apart := false, narrowed := true }
def FnVlanStaysUptoSaid : Prop := fnVlanStaysUptoRow.holds Try.pinned (OpenSpec.upto fnVlanStaysSpec)

/-- 'laws.FnVlanAll', WHERE WHAT IT READS IS OF BULK AT MOST 1048576: true; the input reads as it did. -/
def fnVlanAllUptoRow : OpenClaim := { program := "ytiokieancjigeaa", sum := "0752103afa0988f0d05925cdf869c353d5413640e926a25439a9017174355d3f", func := "loop.example/wholenet/laws.FnVlanAll", spec := "fnVlanAll", unfollowed := true, recurses := true, apart := false, narrowed := true }
def FnVlanAllUptoSaid : Prop := fnVlanAllUptoRow.holds Try.pinned (OpenSpec.upto fnVlanAllSpec)

/-- 'laws.FnVlanReturn', WHERE WHAT IT READS IS OF BULK AT MOST 1048576: true; the input reads as it did. -/
def fnVlanReturnUptoRow : OpenClaim := { program := "ytiokieancjigeaa", sum := "0752103afa0988f0d05925cdf869c353d5413640e926a25439a9017174355d3f", func := "loop.example/wholenet/laws.FnVlanReturn", spec := "fnVlanReturn", unfollowed := true, recurses := true, apart := false, narrowed := true }
def FnVlanReturnUptoSaid : Prop := fnVlanReturnUptoRow.holds Try.pinned (OpenSpec.upto fnVlanReturnSpec)

/-- 'laws.FnApart', WHERE WHAT IT READS IS OF BULK AT MOST 1048576: true; the input reads as it did. -/
def fnApartUptoRow : OpenClaim := { program := "ytiokieancjigeaa", sum := "0752103afa0988f0d05925cdf869c353d5413640e926a25439a9017174355d3f", func := "loop.example/wholenet/laws.FnApart", spec := "fnApart", unfollowed := true, recurses := true, apart := false, narrowed := true }
def FnApartUptoSaid : Prop := fnApartUptoRow.holds Try.pinned (OpenSpec.upto fnApartSpec)

/-- 'laws.FnExactVPortsValid', WHERE WHAT IT READS IS OF BULK AT MOST 1048576: true; the input reads as it did. -/
def fnExactVPortsValidUptoRow : OpenClaim := { program := "ytiokieancjigeaa", sum := "0752103afa0988f0d05925cdf869c353d5413640e926a25439a9017174355d3f", func := "loop.example/wholenet/laws.FnExactVPortsValid", spec := "fnExactVPortsValid", apart := false, narrowed := true }
def FnExactVPortsValidUptoSaid : Prop := fnExactVPortsValidUptoRow.holds Try.pinned (OpenSpec.upto fnExactVPortsValidSpec)

/-- 'laws.FnExactVlanIn', WHERE WHAT IT READS IS OF BULK AT MOST 1048576: true; the input reads as it did. -/
def fnExactVlanInUptoRow : OpenClaim := { program := "ytiokieancjigeaa", sum := "0752103afa0988f0d05925cdf869c353d5413640e926a25439a9017174355d3f", func := "loop.example/wholenet/laws.FnExactVlanIn", spec := "fnExactVlanIn", unfollowed := true, recurses := true, apart := false, narrowed := true }
def FnExactVlanInUptoSaid : Prop := fnExactVlanInUptoRow.holds Try.pinned (OpenSpec.upto fnExactVlanInSpec)

/-- 'laws.FnExactTagOut', WHERE WHAT IT READS IS OF BULK AT MOST 1048576: true; the input reads as it did. -/
def fnExactTagOutUptoRow : OpenClaim := { program := "ytiokieancjigeaa", sum := "0752103afa0988f0d05925cdf869c353d5413640e926a25439a9017174355d3f", func := "loop.example/wholenet/laws.FnExactTagOut", spec := "fnExactTagOut", unfollowed := true, recurses := true, apart := false, narrowed := true }
def FnExactTagOutUptoSaid : Prop := fnExactTagOutUptoRow.holds Try.pinned (OpenSpec.upto fnExactTagOutSpec)

/-- 'laws.FnExactPortsOn', WHERE WHAT IT READS IS OF BULK AT MOST 1048576: true; the input reads as it did. -/
def fnExactPortsOnUptoRow : OpenClaim := { program := "ytiokieancjigeaa", sum := "0752103afa0988f0d05925cdf869c353d5413640e926a25439a9017174355d3f", func := "loop.example/wholenet/laws.FnExactPortsOn", spec := "fnExactPortsOn", unfollowed := true, recurses := true, apart := false, narrowed := true }
def FnExactPortsOnUptoSaid : Prop := fnExactPortsOnUptoRow.holds Try.pinned (OpenSpec.upto fnExactPortsOnSpec)

/-- 'laws.FnExactFloodVlan', WHERE WHAT IT READS IS OF BULK AT MOST 1048576: true; the input reads as it did. -/
def fnExactFloodVlanUptoRow : OpenClaim := { program := "ytiokieancjigeaa", sum := "0752103afa0988f0d05925cdf869c353d5413640e926a25439a9017174355d3f", func := "loop.example/wholenet/laws.FnExactFloodVlan", spec := "fnExactFloodVlan", unfollowed := true, recurses := true, apart := false, narrowed := true }
def FnExactFloodVlanUptoSaid : Prop := fnExactFloodVlanUptoRow.holds Try.pinned (OpenSpec.upto fnExactFloodVlanSpec)

/-- 'laws.FnExactApartFrom', WHERE WHAT IT READS IS OF BULK AT MOST 1048576: true; the input reads as it did. -/
def fnExactApartFromUptoRow : OpenClaim := { program := "ytiokieancjigeaa", sum := "0752103afa0988f0d05925cdf869c353d5413640e926a25439a9017174355d3f", func := "loop.example/wholenet/laws.FnExactApartFrom", spec := "fnExactApartFrom", unfollowed := true, recurses := true, apart := false, narrowed := true }
def FnExactApartFromUptoSaid : Prop := fnExactApartFromUptoRow.holds Try.pinned (OpenSpec.upto fnExactApartFromSpec)

end Rows
end Go.Proofs.Ytiokieancjigeaa

/-
  No cell of these rows narrows 'for every input' (looked for: loops, veiled, ifaces, maps, wideKeys, modest, calm, conditions, laid).
  DERIVED. THE GIVEN ROWS OF THIS SEAT. 16 by the template 'for every input the law returns true; each argument reads behind the call as it read before'; 0 by the template 'total and deterministic' (their statements: YtkmdpmhaljieaaaTotals.lean).
  GIVEN WITH THE SEED: the statements are not yours to turn. If you find one false, say at which input.
  Laid BY PROGRAM, IN A SANDBOX (cutbox-rows.mjs): the forced cells as the released guide's own fill.sh prints them over the translation 3feaf47643cd1ca9… (all of the seat's roots in one cut). By AI agents, Wed Nov 11 2026. No macro, syntax, notation, axiom, sorry.
-/
import Derived.Test.YtkmdpmhaljieaaaChecked
import GoSem.Claim
import GoSem.ClaimJoined
import GoSem.ClaimMapViews
import Derived.JoinedTies
import Derived.KernelRfl
namespace Go.Proofs.Ytkmdpmhaljieaaa
/- THE CELL 'sum', in the pinned program and in every row, IS THE sha256 OF THE DUMP (.gsa) THAT YtkmdpmhaljieaaaProg.lean LOADS. Nothing in Lean hashes anything: it is a label: what it is worth is what the hold of that sum in a sandbox is worth. -/
noncomputable def Try.pinned : Pinned := { name := "ytkmdpmhaljieaaa", sum := "3feaf47643cd1ca95dcd18d7cc4917b0d7d88923f575c206b094c9000d53b0b9", checked := Try.checked }
namespace Rows
def none {H : Type} : Left H := { results := [], args := [] }

/-- 'laws.FnRoot': WHATEVER THE INPUT: true; the input reads as it did. -/
def fnRootSpec : ChangeSpec := { name := "fnRoot", fn := fun _ => fun
  | [d] => { results := [.lit (.bool true)], args := [d] }
  | _ => none }
def fnRootRow : OpenClaim := { program := "ytkmdpmhaljieaaa", sum := "3feaf47643cd1ca95dcd18d7cc4917b0d7d88923f575c206b094c9000d53b0b9", func := "loop.example/wholenet/laws.FnRoot", spec := "fnRoot", apart := false }
def FnRootSaid : Prop := fnRootRow.holds Try.pinned (OpenSpec.ofChange fnRootSpec)

/-- ITS FALSE NEIGHBOUR: 'it returns false'. Refute it at one input. -/
def fnRootWrong : ChangeSpec := { name := "fnRoot", fn := fun _ => fun
  | [d] => { results := [.lit (.bool false)], args := [d] }
  | _ => none }
def FnRootWrongFalsely : Prop := fnRootRow.holds Try.pinned (OpenSpec.ofChange fnRootWrong)

/-- 'laws.FnCosts': WHATEVER THE INPUT: true; the input reads as it did. -/
def fnCostsSpec : ChangeSpec := { name := "fnCosts", fn := fun _ => fun
  | [d] => { results := [.lit (.bool true)], args := [d] }
  | _ => none }
def fnCostsRow : OpenClaim := { program := "ytkmdpmhaljieaaa", sum := "3feaf47643cd1ca95dcd18d7cc4917b0d7d88923f575c206b094c9000d53b0b9", func := "loop.example/wholenet/laws.FnCosts", spec := "fnCosts", unfollowed := true, recurses := true, apart := false }
def FnCostsSaid : Prop := fnCostsRow.holds Try.pinned (OpenSpec.ofChange fnCostsSpec)

/-- ITS FALSE NEIGHBOUR: 'it returns false'. Refute it at one input. -/
def fnCostsWrong : ChangeSpec := { name := "fnCosts", fn := fun _ => fun
  | [d] => { results := [.lit (.bool false)], args := [d] }
  | _ => none }
def FnCostsWrongFalsely : Prop := fnCostsRow.holds Try.pinned (OpenSpec.ofChange fnCostsWrong)

/-- 'laws.FnTree': WHATEVER THE INPUT: true; the input reads as it did. -/
def fnTreeSpec : ChangeSpec := { name := "fnTree", fn := fun _ => fun
  | [d] => { results := [.lit (.bool true)], args := [d] }
  | _ => none }
def fnTreeRow : OpenClaim := { program := "ytkmdpmhaljieaaa", sum := "3feaf47643cd1ca95dcd18d7cc4917b0d7d88923f575c206b094c9000d53b0b9", func := "loop.example/wholenet/laws.FnTree", spec := "fnTree", unfollowed := true, recurses := true, apart := false }
def FnTreeSaid : Prop := fnTreeRow.holds Try.pinned (OpenSpec.ofChange fnTreeSpec)

/-- ITS FALSE NEIGHBOUR: 'it returns false'. Refute it at one input. -/
def fnTreeWrong : ChangeSpec := { name := "fnTree", fn := fun _ => fun
  | [d] => { results := [.lit (.bool false)], args := [d] }
  | _ => none }
def FnTreeWrongFalsely : Prop := fnTreeRow.holds Try.pinned (OpenSpec.ofChange fnTreeWrong)

/-- 'laws.FnTreeLess': WHATEVER THE INPUT: true; the input reads as it did. -/
def fnTreeLessSpec : ChangeSpec := { name := "fnTreeLess", fn := fun _ => fun
  | [d] => { results := [.lit (.bool true)], args := [d] }
  | _ => none }
def fnTreeLessRow : OpenClaim := { program := "ytkmdpmhaljieaaa", sum := "3feaf47643cd1ca95dcd18d7cc4917b0d7d88923f575c206b094c9000d53b0b9", func := "loop.example/wholenet/laws.FnTreeLess", spec := "fnTreeLess", unfollowed := true, recurses := true, apart := false }
def FnTreeLessSaid : Prop := fnTreeLessRow.holds Try.pinned (OpenSpec.ofChange fnTreeLessSpec)

/-- ITS FALSE NEIGHBOUR: 'it returns false'. Refute it at one input. -/
def fnTreeLessWrong : ChangeSpec := { name := "fnTreeLess", fn := fun _ => fun
  | [d] => { results := [.lit (.bool false)], args := [d] }
  | _ => none }
def FnTreeLessWrongFalsely : Prop := fnTreeLessRow.holds Try.pinned (OpenSpec.ofChange fnTreeLessWrong)

/-- 'laws.FnClaims': WHATEVER THE INPUT: true; the input reads as it did. -/
def fnClaimsSpec : ChangeSpec := { name := "fnClaims", fn := fun _ => fun
  | [d] => { results := [.lit (.bool true)], args := [d] }
  | _ => none }
def fnClaimsRow : OpenClaim := { program := "ytkmdpmhaljieaaa", sum := "3feaf47643cd1ca95dcd18d7cc4917b0d7d88923f575c206b094c9000d53b0b9", func := "loop.example/wholenet/laws.FnClaims", spec := "fnClaims", unfollowed := true, recurses := true, apart := false }
def FnClaimsSaid : Prop := fnClaimsRow.holds Try.pinned (OpenSpec.ofChange fnClaimsSpec)

/-- ITS FALSE NEIGHBOUR: 'it returns false'. Refute it at one input. -/
def fnClaimsWrong : ChangeSpec := { name := "fnClaims", fn := fun _ => fun
  | [d] => { results := [.lit (.bool false)], args := [d] }
  | _ => none }
def FnClaimsWrongFalsely : Prop := fnClaimsRow.holds Try.pinned (OpenSpec.ofChange fnClaimsWrong)

/-- 'laws.FnClaimsBetter': WHATEVER THE INPUT: true; the input reads as it did. -/
def fnClaimsBetterSpec : ChangeSpec := { name := "fnClaimsBetter", fn := fun _ => fun
  | [d] => { results := [.lit (.bool true)], args := [d] }
  | _ => none }
def fnClaimsBetterRow : OpenClaim := { program := "ytkmdpmhaljieaaa", sum := "3feaf47643cd1ca95dcd18d7cc4917b0d7d88923f575c206b094c9000d53b0b9", func := "loop.example/wholenet/laws.FnClaimsBetter", spec := "fnClaimsBetter", apart := false }
def FnClaimsBetterSaid : Prop := fnClaimsBetterRow.holds Try.pinned (OpenSpec.ofChange fnClaimsBetterSpec)

/-- ITS FALSE NEIGHBOUR: 'it returns false'. Refute it at one input. -/
def fnClaimsBetterWrong : ChangeSpec := { name := "fnClaimsBetter", fn := fun _ => fun
  | [d] => { results := [.lit (.bool false)], args := [d] }
  | _ => none }
def FnClaimsBetterWrongFalsely : Prop := fnClaimsBetterRow.holds Try.pinned (OpenSpec.ofChange fnClaimsBetterWrong)

/-- 'laws.FnNextClaims': WHATEVER THE INPUT: true; the input reads as it did. -/
def fnNextClaimsSpec : ChangeSpec := { name := "fnNextClaims", fn := fun _ => fun
  | [d] => { results := [.lit (.bool true)], args := [d] }
  | _ => none }
def fnNextClaimsRow : OpenClaim := { program := "ytkmdpmhaljieaaa", sum := "3feaf47643cd1ca95dcd18d7cc4917b0d7d88923f575c206b094c9000d53b0b9", func := "loop.example/wholenet/laws.FnNextClaims", spec := "fnNextClaims", apart := false }
def FnNextClaimsSaid : Prop := fnNextClaimsRow.holds Try.pinned (OpenSpec.ofChange fnNextClaimsSpec)

/-- ITS FALSE NEIGHBOUR: 'it returns false'. Refute it at one input. -/
def fnNextClaimsWrong : ChangeSpec := { name := "fnNextClaims", fn := fun _ => fun
  | [d] => { results := [.lit (.bool false)], args := [d] }
  | _ => none }
def FnNextClaimsWrongFalsely : Prop := fnNextClaimsRow.holds Try.pinned (OpenSpec.ofChange fnNextClaimsWrong)

/-- 'laws.FnWayUp': WHATEVER THE INPUT: true; the input reads as it did. -/
def fnWayUpSpec : ChangeSpec := { name := "fnWayUp", fn := fun _ => fun
  | [d] => { results := [.lit (.bool true)], args := [d] }
  | _ => none }
def fnWayUpRow : OpenClaim := { program := "ytkmdpmhaljieaaa", sum := "3feaf47643cd1ca95dcd18d7cc4917b0d7d88923f575c206b094c9000d53b0b9", func := "loop.example/wholenet/laws.FnWayUp", spec := "fnWayUp", unfollowed := true, recurses := true, apart := false }
def FnWayUpSaid : Prop := fnWayUpRow.holds Try.pinned (OpenSpec.ofChange fnWayUpSpec)

/-- ITS FALSE NEIGHBOUR: 'it returns false'. Refute it at one input. -/
def fnWayUpWrong : ChangeSpec := { name := "fnWayUp", fn := fun _ => fun
  | [d] => { results := [.lit (.bool false)], args := [d] }
  | _ => none }
def FnWayUpWrongFalsely : Prop := fnWayUpRow.holds Try.pinned (OpenSpec.ofChange fnWayUpWrong)

/-- 'laws.FnExactCablesValid': WHATEVER THE INPUT: true; the input reads as it did. -/
def fnExactCablesValidSpec : ChangeSpec := { name := "fnExactCablesValid", fn := fun _ => fun
  | [d1, d2] => { results := [.lit (.bool true)], args := [d1, d2] }
  | _ => none }
def fnExactCablesValidRow : OpenClaim := { program := "ytkmdpmhaljieaaa", sum := "3feaf47643cd1ca95dcd18d7cc4917b0d7d88923f575c206b094c9000d53b0b9", func := "loop.example/wholenet/laws.FnExactCablesValid", spec := "fnExactCablesValid", apart := false }
def FnExactCablesValidSaid : Prop := fnExactCablesValidRow.holds Try.pinned (OpenSpec.ofChange fnExactCablesValidSpec)

/-- ITS FALSE NEIGHBOUR: 'it returns false'. Refute it at one input. -/
def fnExactCablesValidWrong : ChangeSpec := { name := "fnExactCablesValid", fn := fun _ => fun
  | [d1, d2] => { results := [.lit (.bool false)], args := [d1, d2] }
  | _ => none }
def FnExactCablesValidWrongFalsely : Prop := fnExactCablesValidRow.holds Try.pinned (OpenSpec.ofChange fnExactCablesValidWrong)

/-- 'laws.FnExactRootOf': WHATEVER THE INPUT: true; the input reads as it did. -/
def fnExactRootOfSpec : ChangeSpec := { name := "fnExactRootOf", fn := fun _ => fun
  | [d1, d2, d3] => { results := [.lit (.bool true)], args := [d1, d2, d3] }
  | _ => none }
def fnExactRootOfRow : OpenClaim := { program := "ytkmdpmhaljieaaa", sum := "3feaf47643cd1ca95dcd18d7cc4917b0d7d88923f575c206b094c9000d53b0b9", func := "loop.example/wholenet/laws.FnExactRootOf", spec := "fnExactRootOf", apart := false }
def FnExactRootOfSaid : Prop := fnExactRootOfRow.holds Try.pinned (OpenSpec.ofChange fnExactRootOfSpec)

/-- ITS FALSE NEIGHBOUR: 'it returns false'. Refute it at one input. -/
def fnExactRootOfWrong : ChangeSpec := { name := "fnExactRootOf", fn := fun _ => fun
  | [d1, d2, d3] => { results := [.lit (.bool false)], args := [d1, d2, d3] }
  | _ => none }
def FnExactRootOfWrongFalsely : Prop := fnExactRootOfRow.holds Try.pinned (OpenSpec.ofChange fnExactRootOfWrong)

/-- 'laws.FnExactCostsOf': WHATEVER THE INPUT: true; the input reads as it did. -/
def fnExactCostsOfSpec : ChangeSpec := { name := "fnExactCostsOf", fn := fun _ => fun
  | [d1, d2] => { results := [.lit (.bool true)], args := [d1, d2] }
  | _ => none }
def fnExactCostsOfRow : OpenClaim := { program := "ytkmdpmhaljieaaa", sum := "3feaf47643cd1ca95dcd18d7cc4917b0d7d88923f575c206b094c9000d53b0b9", func := "loop.example/wholenet/laws.FnExactCostsOf", spec := "fnExactCostsOf", unfollowed := true, recurses := true, apart := false }
def FnExactCostsOfSaid : Prop := fnExactCostsOfRow.holds Try.pinned (OpenSpec.ofChange fnExactCostsOfSpec)

/-- ITS FALSE NEIGHBOUR: 'it returns false'. Refute it at one input. -/
def fnExactCostsOfWrong : ChangeSpec := { name := "fnExactCostsOf", fn := fun _ => fun
  | [d1, d2] => { results := [.lit (.bool false)], args := [d1, d2] }
  | _ => none }
def FnExactCostsOfWrongFalsely : Prop := fnExactCostsOfRow.holds Try.pinned (OpenSpec.ofChange fnExactCostsOfWrong)

/-- 'laws.FnExactTreeOf': WHATEVER THE INPUT: true; the input reads as it did. -/
def fnExactTreeOfSpec : ChangeSpec := { name := "fnExactTreeOf", fn := fun _ => fun
  | [d1, d2] => { results := [.lit (.bool true)], args := [d1, d2] }
  | _ => none }
def fnExactTreeOfRow : OpenClaim := { program := "ytkmdpmhaljieaaa", sum := "3feaf47643cd1ca95dcd18d7cc4917b0d7d88923f575c206b094c9000d53b0b9", func := "loop.example/wholenet/laws.FnExactTreeOf", spec := "fnExactTreeOf", unfollowed := true, recurses := true, apart := false }
def FnExactTreeOfSaid : Prop := fnExactTreeOfRow.holds Try.pinned (OpenSpec.ofChange fnExactTreeOfSpec)

/-- ITS FALSE NEIGHBOUR: 'it returns false'. Refute it at one input. -/
def fnExactTreeOfWrong : ChangeSpec := { name := "fnExactTreeOf", fn := fun _ => fun
  | [d1, d2] => { results := [.lit (.bool false)], args := [d1, d2] }
  | _ => none }
def FnExactTreeOfWrongFalsely : Prop := fnExactTreeOfRow.holds Try.pinned (OpenSpec.ofChange fnExactTreeOfWrong)

/-- 'laws.FnExactFirstClaims': WHATEVER THE INPUT: true; the input reads as it did. -/
def fnExactFirstClaimsSpec : ChangeSpec := { name := "fnExactFirstClaims", fn := fun _ => fun
  | [d] => { results := [.lit (.bool true)], args := [d] }
  | _ => none }
def fnExactFirstClaimsRow : OpenClaim := { program := "ytkmdpmhaljieaaa", sum := "3feaf47643cd1ca95dcd18d7cc4917b0d7d88923f575c206b094c9000d53b0b9", func := "loop.example/wholenet/laws.FnExactFirstClaims", spec := "fnExactFirstClaims", apart := false }
def FnExactFirstClaimsSaid : Prop := fnExactFirstClaimsRow.holds Try.pinned (OpenSpec.ofChange fnExactFirstClaimsSpec)

/-- ITS FALSE NEIGHBOUR: 'it returns false'. Refute it at one input. -/
def fnExactFirstClaimsWrong : ChangeSpec := { name := "fnExactFirstClaims", fn := fun _ => fun
  | [d] => { results := [.lit (.bool false)], args := [d] }
  | _ => none }
def FnExactFirstClaimsWrongFalsely : Prop := fnExactFirstClaimsRow.holds Try.pinned (OpenSpec.ofChange fnExactFirstClaimsWrong)

/-- 'laws.FnExactNextClaims': WHATEVER THE INPUT: true; the input reads as it did. -/
def fnExactNextClaimsSpec : ChangeSpec := { name := "fnExactNextClaims", fn := fun _ => fun
  | [d1, d2, d3] => { results := [.lit (.bool true)], args := [d1, d2, d3] }
  | _ => none }
def fnExactNextClaimsRow : OpenClaim := { program := "ytkmdpmhaljieaaa", sum := "3feaf47643cd1ca95dcd18d7cc4917b0d7d88923f575c206b094c9000d53b0b9", func := "loop.example/wholenet/laws.FnExactNextClaims", spec := "fnExactNextClaims", apart := false }
def FnExactNextClaimsSaid : Prop := fnExactNextClaimsRow.holds Try.pinned (OpenSpec.ofChange fnExactNextClaimsSpec)

/-- ITS FALSE NEIGHBOUR: 'it returns false'. Refute it at one input. -/
def fnExactNextClaimsWrong : ChangeSpec := { name := "fnExactNextClaims", fn := fun _ => fun
  | [d1, d2, d3] => { results := [.lit (.bool false)], args := [d1, d2, d3] }
  | _ => none }
def FnExactNextClaimsWrongFalsely : Prop := fnExactNextClaimsRow.holds Try.pinned (OpenSpec.ofChange fnExactNextClaimsWrong)

/-- 'laws.FnExactClaimsAfter': WHATEVER THE INPUT: true; the input reads as it did. -/
def fnExactClaimsAfterSpec : ChangeSpec := { name := "fnExactClaimsAfter", fn := fun _ => fun
  | [d1, d2, d3] => { results := [.lit (.bool true)], args := [d1, d2, d3] }
  | _ => none }
def fnExactClaimsAfterRow : OpenClaim := { program := "ytkmdpmhaljieaaa", sum := "3feaf47643cd1ca95dcd18d7cc4917b0d7d88923f575c206b094c9000d53b0b9", func := "loop.example/wholenet/laws.FnExactClaimsAfter", spec := "fnExactClaimsAfter", apart := false }
def FnExactClaimsAfterSaid : Prop := fnExactClaimsAfterRow.holds Try.pinned (OpenSpec.ofChange fnExactClaimsAfterSpec)

/-- ITS FALSE NEIGHBOUR: 'it returns false'. Refute it at one input. -/
def fnExactClaimsAfterWrong : ChangeSpec := { name := "fnExactClaimsAfter", fn := fun _ => fun
  | [d1, d2, d3] => { results := [.lit (.bool false)], args := [d1, d2, d3] }
  | _ => none }
def FnExactClaimsAfterWrongFalsely : Prop := fnExactClaimsAfterRow.holds Try.pinned (OpenSpec.ofChange fnExactClaimsAfterWrong)

/-- 'laws.FnExactWayUp': WHATEVER THE INPUT: true; the input reads as it did. -/
def fnExactWayUpSpec : ChangeSpec := { name := "fnExactWayUp", fn := fun _ => fun
  | [d1, d2, d3] => { results := [.lit (.bool true)], args := [d1, d2, d3] }
  | _ => none }
def fnExactWayUpRow : OpenClaim := { program := "ytkmdpmhaljieaaa", sum := "3feaf47643cd1ca95dcd18d7cc4917b0d7d88923f575c206b094c9000d53b0b9", func := "loop.example/wholenet/laws.FnExactWayUp", spec := "fnExactWayUp", unfollowed := true, recurses := true, apart := false }
def FnExactWayUpSaid : Prop := fnExactWayUpRow.holds Try.pinned (OpenSpec.ofChange fnExactWayUpSpec)

/-- ITS FALSE NEIGHBOUR: 'it returns false'. Refute it at one input. -/
def fnExactWayUpWrong : ChangeSpec := { name := "fnExactWayUp", fn := fun _ => fun
  | [d1, d2, d3] => { results := [.lit (.bool false)], args := [d1, d2, d3] }
  | _ => none }
def FnExactWayUpWrongFalsely : Prop := fnExactWayUpRow.holds Try.pinned (OpenSpec.ofChange fnExactWayUpWrong)

/- THE SECOND FORM. 'bulk': how many values and letters a reading holds, each counted each time it is reached (what is shared counts as often as it is met; a slice's spare places count too). A statement '..UptoSaid' is the law's where the arguments, and the package variables that the reading takes, are together of bulk at most 1048576: NARROWER than '..Said'. Prove '..Said' where nothing that the law and all that it calls make is longer than what came in: it says more and counts as full. Else prove '..UptoSaid'. A law counts once. -/
mutual
def uptoBulk {H : Type} : DataW H → Nat
  | .lit (.string bytes) => bytes.length + 1
  | .lit _ => 1
  | .nil => 1
  | .ptr d => uptoBulk d + 1
  | .slice elems spare => uptoBulkAll elems + uptoBulkAll spare + 1
  | .agg parts => uptoBulkAll parts + 1
  | .iface _ d => uptoBulk d + 1
  | .map entries => uptoBulkEntries entries + 1
  | .held _ => 1
def uptoBulkAll {H : Type} : List (DataW H) → Nat
  | [] => 0
  | d :: r => uptoBulk d + uptoBulkAll r
def uptoBulkEntries {H : Type} : List (Lit × DataW H) → Nat
  | [] => 0
  | x :: r => uptoBulkEntry x + uptoBulkEntries r
def uptoBulkEntry {H : Type} : Lit × DataW H → Nat
  | (.string bytes, d) => bytes.length + uptoBulk d + 1
  | (_, d) => uptoBulk d + 1
 end
def uptoSmall : (H : Type) → List (DataW H) → Bool := fun _ ds => decide (uptoBulkAll ds ≤ 1048576)
def OpenSpec.upto (s : _root_.Go.ChangeSpec) : _root_.Go.OpenSpec := { _root_.Go.OpenSpec.ofChange s with cond := some uptoSmall }

/-- 'laws.FnRoot', WHERE WHAT IT READS IS OF BULK AT MOST 1048576: true; the input reads as it did. -/
def fnRootUptoRow : OpenClaim := { program := "ytkmdpmhaljieaaa", sum := "3feaf47643cd1ca95dcd18d7cc4917b0d7d88923f575c206b094c9000d53b0b9", func := "loop.example/wholenet/laws.FnRoot", spec := "fnRoot", apart := false, narrowed := true }
def FnRootUptoSaid : Prop := fnRootUptoRow.holds Try.pinned (OpenSpec.upto fnRootSpec)

/-- 'laws.FnCosts', WHERE WHAT IT READS IS OF BULK AT MOST 1048576: true; the input reads as it did. -/
def fnCostsUptoRow : OpenClaim := { program := "ytkmdpmhaljieaaa", sum := "3feaf47643cd1ca95dcd18d7cc4917b0d7d88923f575c206b094c9000d53b0b9", func := "loop.example/wholenet/laws.FnCosts", spec := "fnCosts", unfollowed := true, recurses := true, apart := false, narrowed := true }
def FnCostsUptoSaid : Prop := fnCostsUptoRow.holds Try.pinned (OpenSpec.upto fnCostsSpec)

/-- 'laws.FnTree', WHERE WHAT IT READS IS OF BULK AT MOST 1048576: true; the input reads as it did. -/
def fnTreeUptoRow : OpenClaim := { program := "ytkmdpmhaljieaaa", sum := "3feaf47643cd1ca95dcd18d7cc4917b0d7d88923f575c206b094c9000d53b0b9", func := "loop.example/wholenet/laws.FnTree", spec := "fnTree", unfollowed := true, recurses := true, apart := false, narrowed := true }
def FnTreeUptoSaid : Prop := fnTreeUptoRow.holds Try.pinned (OpenSpec.upto fnTreeSpec)

/-- 'laws.FnTreeLess', WHERE WHAT IT READS IS OF BULK AT MOST 1048576: true; the input reads as it did. -/
def fnTreeLessUptoRow : OpenClaim := { program := "ytkmdpmhaljieaaa", sum := "3feaf47643cd1ca95dcd18d7cc4917b0d7d88923f575c206b094c9000d53b0b9", func := "loop.example/wholenet/laws.FnTreeLess", spec := "fnTreeLess", unfollowed := true, recurses := true, apart := false, narrowed := true }
def FnTreeLessUptoSaid : Prop := fnTreeLessUptoRow.holds Try.pinned (OpenSpec.upto fnTreeLessSpec)

/-- 'laws.FnClaims', WHERE WHAT IT READS IS OF BULK AT MOST 1048576: true; the input reads as it did. -/
def fnClaimsUptoRow : OpenClaim := { program := "ytkmdpmhaljieaaa", sum := "3feaf47643cd1ca95dcd18d7cc4917b0d7d88923f575c206b094c9000d53b0b9", func := "loop.example/wholenet/laws.FnClaims", spec := "fnClaims", unfollowed := true, recurses := true, apart := false, narrowed := true }
def FnClaimsUptoSaid : Prop := fnClaimsUptoRow.holds Try.pinned (OpenSpec.upto fnClaimsSpec)

/-- 'laws.FnClaimsBetter', WHERE WHAT IT READS IS OF BULK AT MOST 1048576: true; the input reads as it did. -/
def fnClaimsBetterUptoRow : OpenClaim := { program := "ytkmdpmhaljieaaa", sum := "3feaf47643cd1ca95dcd18d7cc4917b0d7d88923f575c206b094c9000d53b0b9", func := "loop.example/wholenet/laws.FnClaimsBetter", spec := "fnClaimsBetter", apart := false, narrowed := true }
def FnClaimsBetterUptoSaid : Prop := fnClaimsBetterUptoRow.holds Try.pinned (OpenSpec.upto fnClaimsBetterSpec)

/-- 'laws.FnNextClaims', WHERE WHAT IT READS IS OF BULK AT MOST 1048576: true; the input reads as it did. -/
def fnNextClaimsUptoRow : OpenClaim := { program := "ytkmdpmhaljieaaa", sum := "3feaf47643cd1ca95dcd18d7cc4917b0d7d88923f575c206b094c9000d53b0b9", func := "loop.example/wholenet/laws.FnNextClaims", spec := "fnNextClaims", apart := false, narrowed := true }
def FnNextClaimsUptoSaid : Prop := fnNextClaimsUptoRow.holds Try.pinned (OpenSpec.upto fnNextClaimsSpec)

/-- 'laws.FnWayUp', WHERE WHAT IT READS IS OF BULK AT MOST 1048576: true; the input reads as it did. -/
def fnWayUpUptoRow : OpenClaim := { program := "ytkmdpmhaljieaaa", sum := "3feaf47643cd1ca95dcd18d7cc4917b0d7d88923f575c206b094c9000d53b0b9", func := "loop.example/wholenet/laws.FnWayUp", spec := "fnWayUp", unfollowed := true, recurses := true, apart := false, narrowed := true }
def FnWayUpUptoSaid : Prop := fnWayUpUptoRow.holds Try.pinned (OpenSpec.upto fnWayUpSpec)

/-- 'laws.FnExactCablesValid', WHERE WHAT IT READS IS OF BULK AT MOST 1048576: true; the input reads as it did. -/
def fnExactCablesValidUptoRow : OpenClaim := { program := "ytkmdpmhaljieaaa", sum := "3feaf47643cd1ca95dcd18d7cc4917b0d7d88923f575c206b094c9000d53b0b9", func := "loop.example/wholenet/laws.FnExactCablesValid", spec := "fnExactCablesValid", apart := false, narrowed := true }
def FnExactCablesValidUptoSaid : Prop := fnExactCablesValidUptoRow.holds Try.pinned (OpenSpec.upto fnExactCablesValidSpec)

/-- 'laws.FnExactRootOf', WHERE WHAT IT READS IS OF BULK AT MOST 1048576: true; the input reads as it did. -/
def fnExactRootOfUptoRow : OpenClaim := { program := "ytkmdpmhaljieaaa", sum := "3feaf47643cd1ca95dcd18d7cc4917b0d7d88923f575c206b094c9000d53b0b9", func := "loop.example/wholenet/laws.FnExactRootOf", spec := "fnExactRootOf", apart := false, narrowed := true }
def FnExactRootOfUptoSaid : Prop := fnExactRootOfUptoRow.holds Try.pinned (OpenSpec.upto fnExactRootOfSpec)

/-- 'laws.FnExactCostsOf', WHERE WHAT IT READS IS OF BULK AT MOST 1048576: true; the input reads as it did. -/
def fnExactCostsOfUptoRow : OpenClaim := { program := "ytkmdpmhaljieaaa", sum := "3feaf47643cd1ca95dcd18d7cc4917b0d7d88923f575c206b094c9000d53b0b9", func := "loop.example/wholenet/laws.FnExactCostsOf", spec := "fnExactCostsOf", unfollowed := true, recurses := true, apart := false, narrowed := true }
def FnExactCostsOfUptoSaid : Prop := fnExactCostsOfUptoRow.holds Try.pinned (OpenSpec.upto fnExactCostsOfSpec)

/-- 'laws.FnExactTreeOf', WHERE WHAT IT READS IS OF BULK AT MOST 1048576: true; the input reads as it did. -/
def fnExactTreeOfUptoRow : OpenClaim := { program := "ytkmdpmhaljieaaa", sum := "3feaf47643cd1ca95dcd18d7cc4917b0d7d88923f575c206b094c9000d53b0b9", func := "loop.example/wholenet/laws.FnExactTreeOf", spec := "fnExactTreeOf", unfollowed := true, recurses := true, apart := false, narrowed := true }
def FnExactTreeOfUptoSaid : Prop := fnExactTreeOfUptoRow.holds Try.pinned (OpenSpec.upto fnExactTreeOfSpec)

/-- 'laws.FnExactFirstClaims', WHERE WHAT IT READS IS OF BULK AT MOST 1048576: true; the input reads as it did. -/
def fnExactFirstClaimsUptoRow : OpenClaim := { program := "ytkmdpmhaljieaaa", sum := "3feaf47643cd1ca95dcd18d7cc4917b0d7d88923f575c206b094c9000d53b0b9", func := "loop.example/wholenet/laws.FnExactFirstClaims", spec := "fnExactFirstClaims", apart := false, narrowed := true }
def FnExactFirstClaimsUptoSaid : Prop := fnExactFirstClaimsUptoRow.holds Try.pinned (OpenSpec.upto fnExactFirstClaimsSpec)

/-- 'laws.FnExactNextClaims', WHERE WHAT IT READS IS OF BULK AT MOST 1048576: true; the input reads as it did. -/
def fnExactNextClaimsUptoRow : OpenClaim := { program := "ytkmdpmhaljieaaa", sum := "3feaf47643cd1ca95dcd18d7cc4917b0d7d88923f575c206b094c9000d53b0b9", func := "loop.example/wholenet/laws.FnExactNextClaims", spec := "fnExactNextClaims", apart := false, narrowed := true }
def FnExactNextClaimsUptoSaid : Prop := fnExactNextClaimsUptoRow.holds Try.pinned (OpenSpec.upto fnExactNextClaimsSpec)

/-- 'laws.FnExactClaimsAfter', WHERE WHAT IT READS IS OF BULK AT MOST 1048576: true; the input reads as it did. -/
def fnExactClaimsAfterUptoRow : OpenClaim := { program := "ytkmdpmhaljieaaa", sum := "3feaf47643cd1ca95dcd18d7cc4917b0d7d88923f575c206b094c9000d53b0b9", func := "loop.example/wholenet/laws.FnExactClaimsAfter", spec := "fnExactClaimsAfter", apart := false, narrowed := true }
def FnExactClaimsAfterUptoSaid : Prop := fnExactClaimsAfterUptoRow.holds Try.pinned (OpenSpec.upto fnExactClaimsAfterSpec)

/-- 'laws.FnExactWayUp', WHERE WHAT IT READS IS OF BULK AT MOST 1048576: true; the input reads as it did. -/
def fnExactWayUpUptoRow : OpenClaim := { program := "ytkmdpmhaljieaaa", sum := "3feaf47643cd1ca95dcd18d7cc4917b0d7d88923f575c206b094c9000d53b0b9", func := "loop.example/wholenet/laws.FnExactWayUp", spec := "fnExactWayUp", unfollowed := true, recurses := true, apart := false, narrowed := true }
def FnExactWayUpUptoSaid : Prop := fnExactWayUpUptoRow.holds Try.pinned (OpenSpec.upto fnExactWayUpSpec)

end Rows
end Go.Proofs.Ytkmdpmhaljieaaa

/-
  DERIVED. GIVEN WITH THE SEED: THE CARDS: each row of YtpbiomlohgcjdaaDoorRows.lean that lists a variable, with what it lists TIED to the program's text (the seventh form; the later family's looks); each row that meets fmt, with fmt's text TOLD by the authors' own Lean function (tested against real Go, not proved from fmt's source: count such statements apart). THE CARD IS WHAT COUNTS. Prove the row's statement (the work); the ties are given (YtpbiomlohgcjdaaDoorTie.lean); close each card by the builder's one call (the guide's Derived/Test/ToyasCard.lean, 'card_holds'). Laid BY PROGRAM, IN A SANDBOX (cutbox-door.mjs). By AI agents, Wed Nov 11 2026. No macro, syntax, notation, axiom, sorry.
-/
import Derived.Test.YtpbiomlohgcjdaaDoorRows
import GoSem.ClaimSeven
namespace Go.Proofs.YtpbiomlohgcjdaaDoor
namespace Rows

/-- THE TIED CARD OF 'laws.FnDecodeBytes'. -/
def fnDecodeBytesCard : Claim7 := { stood := { row := fnDecodeBytesRow, standIns := [], harness := (true, "172e42db9f0dcf7da7db57026f6a4f90072986dae7b207d5f8cc5f67b58b8d4d"), looks := false }, kinds := [], alts := [], laidByText := true, laidKinds := [.data, .data], laidTests := true, laidLooks := .later }
def FnDecodeBytesCardSaid : Prop := Claim7.holds Tryd.pinned (.plain (OpenSpec.ofChange fnDecodeBytesSpec)) fnDecodeBytesCard

/-- THE SECOND FORM's CARD OF 'laws.FnDecodeBytes'. -/
def fnDecodeBytesUptoCard : Claim7 := { stood := { row := fnDecodeBytesUptoRow, standIns := [], harness := (true, "172e42db9f0dcf7da7db57026f6a4f90072986dae7b207d5f8cc5f67b58b8d4d"), looks := false }, kinds := [], alts := [], laidByText := true, laidKinds := [.data, .data], laidTests := true, laidLooks := .later }
def FnDecodeBytesUptoCardSaid : Prop := Claim7.holds Tryd.pinned (.plain (OpenSpec.upto fnDecodeBytesSpec)) fnDecodeBytesUptoCard
end Rows
end Go.Proofs.YtpbiomlohgcjdaaDoor

/-
  DERIVED. GIVEN WITH THE SEED: THE CARDS: each row of YtiokieancjigeaaDoorRows.lean that lists a variable, with what it lists TIED to the program's text (the seventh form; the later family's looks); each row that meets fmt, with fmt's text TOLD by the authors' own Lean function (tested against real Go, not proved from fmt's source: count such statements apart). THE CARD IS WHAT COUNTS. Prove the row's statement (the work); the ties are given (YtiokieancjigeaaDoorTie.lean); close each card by the builder's one call (the guide's Derived/Test/ToyasCard.lean, 'card_holds'). Laid BY PROGRAM, IN A SANDBOX (cutbox-door.mjs). By AI agents, Wed Nov 11 2026. No macro, syntax, notation, axiom, sorry.
-/
import Derived.Test.YtiokieancjigeaaDoorRows
import GoSem.ClaimSeven
namespace Go.Proofs.YtiokieancjigeaaDoor
namespace Rows

/-- THE TIED CARD OF 'laws.FnMeet'. -/
def fnMeetCard : Claim7 := { stood := { row := fnMeetRow, standIns := [], harness := (true, "70f788531270ef05271f925299bcf8165145c8a7cae775c61da2157afd1ede28"), looks := false }, kinds := [], alts := [], laidByText := true, laidKinds := [.data, .data], laidTests := true, laidLooks := .later }
def FnMeetCardSaid : Prop := Claim7.holds Tryd.pinned (.plain (OpenSpec.ofChange fnMeetSpec)) fnMeetCard

/-- THE TIED CARD OF 'laws.FnExactMeetIn'. -/
def fnExactMeetInCard : Claim7 := { stood := { row := fnExactMeetInRow, standIns := [], harness := (true, "70f788531270ef05271f925299bcf8165145c8a7cae775c61da2157afd1ede28"), looks := false }, kinds := [], alts := [], laidByText := true, laidKinds := [.data, .data], laidTests := true, laidLooks := .later }
def FnExactMeetInCardSaid : Prop := Claim7.holds Tryd.pinned (.plain (OpenSpec.ofChange fnExactMeetInSpec)) fnExactMeetInCard

/-- THE SECOND FORM's CARD OF 'laws.FnMeet'. -/
def fnMeetUptoCard : Claim7 := { stood := { row := fnMeetUptoRow, standIns := [], harness := (true, "70f788531270ef05271f925299bcf8165145c8a7cae775c61da2157afd1ede28"), looks := false }, kinds := [], alts := [], laidByText := true, laidKinds := [.data, .data], laidTests := true, laidLooks := .later }
def FnMeetUptoCardSaid : Prop := Claim7.holds Tryd.pinned (.plain (OpenSpec.upto fnMeetSpec)) fnMeetUptoCard

/-- THE SECOND FORM's CARD OF 'laws.FnExactMeetIn'. -/
def fnExactMeetInUptoCard : Claim7 := { stood := { row := fnExactMeetInUptoRow, standIns := [], harness := (true, "70f788531270ef05271f925299bcf8165145c8a7cae775c61da2157afd1ede28"), looks := false }, kinds := [], alts := [], laidByText := true, laidKinds := [.data, .data], laidTests := true, laidLooks := .later }
def FnExactMeetInUptoCardSaid : Prop := Claim7.holds Tryd.pinned (.plain (OpenSpec.upto fnExactMeetInSpec)) fnExactMeetInUptoCard
end Rows
end Go.Proofs.YtiokieancjigeaaDoor

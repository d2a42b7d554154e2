/-
  DERIVED. GIVEN WITH THE SEED: THE CARDS: each row of YthcfjnedpffbbaaDoorRows.lean that lists a variable, with what it lists TIED to the program's text (the seventh form; the later family's looks); each row that meets fmt, with fmt's text TOLD by the authors' own Lean function (tested against real Go, not proved from fmt's source: count such statements apart). THE CARD IS WHAT COUNTS. Prove the row's statement (the work); the ties are given (YthcfjnedpffbbaaDoorTie.lean); close each card by the builder's one call (the guide's Derived/Test/ToyasCard.lean, 'card_holds'). Laid BY PROGRAM, IN A SANDBOX (cutbox-door.mjs). By AI agents, Wed Nov 11 2026. No macro, syntax, notation, axiom, sorry.
-/
import Derived.Test.YthcfjnedpffbbaaDoorRows
import GoSem.ClaimSeven
namespace Go.Proofs.YthcfjnedpffbbaaDoor
namespace Rows

/-- THE TIED CARD OF 'laws.FnRoutes'. -/
def fnRoutesCard : Claim7 := { stood := { row := fnRoutesRow, standIns := [], harness := (true, "0d86bebf70e6fb1861e5d2c59b89df02cabce1e6a629f398b8717d2271415b01"), looks := false }, kinds := [], alts := [], laidByText := true, laidKinds := [.data], laidTests := true, laidLooks := .later }
def FnRoutesCardSaid : Prop := Claim7.holds Tryd.pinned (.plain (OpenSpec.ofChange fnRoutesSpec)) fnRoutesCard

/-- THE TIED CARD OF 'laws.FnWire'. -/
def fnWireCard : Claim7 := { stood := { row := fnWireRow, standIns := [], harness := (true, "0d86bebf70e6fb1861e5d2c59b89df02cabce1e6a629f398b8717d2271415b01"), looks := false }, kinds := [], alts := [], laidByText := true, laidKinds := [.data], laidTests := true, laidLooks := .later }
def FnWireCardSaid : Prop := Claim7.holds Tryd.pinned (.plain (OpenSpec.ofChange fnWireSpec)) fnWireCard

/-- THE TIED CARD OF 'laws.FnWayCut'. -/
def fnWayCutCard : Claim7 := { stood := { row := fnWayCutRow, standIns := [], harness := (true, "0d86bebf70e6fb1861e5d2c59b89df02cabce1e6a629f398b8717d2271415b01"), looks := false }, kinds := [], alts := [], laidByText := true, laidKinds := [.data], laidTests := true, laidLooks := .later }
def FnWayCutCardSaid : Prop := Claim7.holds Tryd.pinned (.plain (OpenSpec.ofChange fnWayCutSpec)) fnWayCutCard

/-- THE TIED CARD OF 'laws.FnWaitPairs'. -/
def fnWaitPairsCard : Claim7 := { stood := { row := fnWaitPairsRow, standIns := [], harness := (true, "0d86bebf70e6fb1861e5d2c59b89df02cabce1e6a629f398b8717d2271415b01"), looks := false }, kinds := [], alts := [], laidByText := true, laidKinds := [.data], laidTests := true, laidLooks := .later }
def FnWaitPairsCardSaid : Prop := Claim7.holds Tryd.pinned (.plain (OpenSpec.ofChange fnWaitPairsSpec)) fnWaitPairsCard

/-- THE TIED CARD OF 'laws.FnNoRound'. -/
def fnNoRoundCard : Claim7 := { stood := { row := fnNoRoundRow, standIns := [], harness := (true, "0d86bebf70e6fb1861e5d2c59b89df02cabce1e6a629f398b8717d2271415b01"), looks := false }, kinds := [], alts := [], laidByText := true, laidKinds := [.data], laidTests := true, laidLooks := .later }
def FnNoRoundCardSaid : Prop := Claim7.holds Tryd.pinned (.plain (OpenSpec.ofChange fnNoRoundSpec)) fnNoRoundCard

/-- THE TIED CARD OF 'laws.FnRouteNoRound'. -/
def fnRouteNoRoundCard : Claim7 := { stood := { row := fnRouteNoRoundRow, standIns := [], harness := (true, "0d86bebf70e6fb1861e5d2c59b89df02cabce1e6a629f398b8717d2271415b01"), looks := false }, kinds := [], alts := [], laidByText := true, laidKinds := [.data], laidTests := true, laidLooks := .later }
def FnRouteNoRoundCardSaid : Prop := Claim7.holds Tryd.pinned (.plain (OpenSpec.ofChange fnRouteNoRoundSpec)) fnRouteNoRoundCard

/-- THE TIED CARD OF 'laws.FnAlone'. -/
def fnAloneCard : Claim7 := { stood := { row := fnAloneRow, standIns := [], harness := (true, "0d86bebf70e6fb1861e5d2c59b89df02cabce1e6a629f398b8717d2271415b01"), looks := false }, kinds := [], alts := [], laidByText := true, laidKinds := [.data], laidTests := true, laidLooks := .later }
def FnAloneCardSaid : Prop := Claim7.holds Tryd.pinned (.plain (OpenSpec.ofChange fnAloneSpec)) fnAloneCard

/-- THE TIED CARD OF 'laws.FnExactWayValid'. -/
def fnExactWayValidCard : Claim7 := { stood := { row := fnExactWayValidRow, standIns := [], harness := (true, "0d86bebf70e6fb1861e5d2c59b89df02cabce1e6a629f398b8717d2271415b01"), looks := false }, kinds := [], alts := [], laidByText := true, laidKinds := [.data], laidTests := true, laidLooks := .later }
def FnExactWayValidCardSaid : Prop := Claim7.holds Tryd.pinned (.plain (OpenSpec.ofChange fnExactWayValidSpec)) fnExactWayValidCard

/-- THE TIED CARD OF 'laws.FnExactWireOf'. -/
def fnExactWireOfCard : Claim7 := { stood := { row := fnExactWireOfRow, standIns := [], harness := (true, "0d86bebf70e6fb1861e5d2c59b89df02cabce1e6a629f398b8717d2271415b01"), looks := false }, kinds := [], alts := [], laidByText := true, laidKinds := [.data], laidTests := true, laidLooks := .later }
def FnExactWireOfCardSaid : Prop := Claim7.holds Tryd.pinned (.plain (OpenSpec.ofChange fnExactWireOfSpec)) fnExactWireOfCard

/-- THE TIED CARD OF 'laws.FnExactWaitsOf'. -/
def fnExactWaitsOfCard : Claim7 := { stood := { row := fnExactWaitsOfRow, standIns := [], harness := (true, "0d86bebf70e6fb1861e5d2c59b89df02cabce1e6a629f398b8717d2271415b01"), looks := false }, kinds := [], alts := [], laidByText := true, laidKinds := [.data], laidTests := true, laidLooks := .later }
def FnExactWaitsOfCardSaid : Prop := Claim7.holds Tryd.pinned (.plain (OpenSpec.ofChange fnExactWaitsOfSpec)) fnExactWaitsOfCard

/-- THE TIED CARD OF 'laws.FnExactHasRound'. -/
def fnExactHasRoundCard : Claim7 := { stood := { row := fnExactHasRoundRow, standIns := [], harness := (true, "0d86bebf70e6fb1861e5d2c59b89df02cabce1e6a629f398b8717d2271415b01"), looks := false }, kinds := [], alts := [], laidByText := true, laidKinds := [.data], laidTests := true, laidLooks := .later }
def FnExactHasRoundCardSaid : Prop := Claim7.holds Tryd.pinned (.plain (OpenSpec.ofChange fnExactHasRoundSpec)) fnExactHasRoundCard

/-- THE TIED CARD OF 'laws.FnExactRunWorms'. -/
def fnExactRunWormsCard : Claim7 := { stood := { row := fnExactRunWormsRow, standIns := [], harness := (true, "0d86bebf70e6fb1861e5d2c59b89df02cabce1e6a629f398b8717d2271415b01"), looks := false }, kinds := [], alts := [], laidByText := true, laidKinds := [.data], laidTests := true, laidLooks := .later }
def FnExactRunWormsCardSaid : Prop := Claim7.holds Tryd.pinned (.plain (OpenSpec.ofChange fnExactRunWormsSpec)) fnExactRunWormsCard

/-- THE SECOND FORM's CARD OF 'laws.FnRoutes'. -/
def fnRoutesUptoCard : Claim7 := { stood := { row := fnRoutesUptoRow, standIns := [], harness := (true, "0d86bebf70e6fb1861e5d2c59b89df02cabce1e6a629f398b8717d2271415b01"), looks := false }, kinds := [], alts := [], laidByText := true, laidKinds := [.data], laidTests := true, laidLooks := .later }
def FnRoutesUptoCardSaid : Prop := Claim7.holds Tryd.pinned (.plain (OpenSpec.upto fnRoutesSpec)) fnRoutesUptoCard

/-- THE SECOND FORM's CARD OF 'laws.FnWire'. -/
def fnWireUptoCard : Claim7 := { stood := { row := fnWireUptoRow, standIns := [], harness := (true, "0d86bebf70e6fb1861e5d2c59b89df02cabce1e6a629f398b8717d2271415b01"), looks := false }, kinds := [], alts := [], laidByText := true, laidKinds := [.data], laidTests := true, laidLooks := .later }
def FnWireUptoCardSaid : Prop := Claim7.holds Tryd.pinned (.plain (OpenSpec.upto fnWireSpec)) fnWireUptoCard

/-- THE SECOND FORM's CARD OF 'laws.FnWayCut'. -/
def fnWayCutUptoCard : Claim7 := { stood := { row := fnWayCutUptoRow, standIns := [], harness := (true, "0d86bebf70e6fb1861e5d2c59b89df02cabce1e6a629f398b8717d2271415b01"), looks := false }, kinds := [], alts := [], laidByText := true, laidKinds := [.data], laidTests := true, laidLooks := .later }
def FnWayCutUptoCardSaid : Prop := Claim7.holds Tryd.pinned (.plain (OpenSpec.upto fnWayCutSpec)) fnWayCutUptoCard

/-- THE SECOND FORM's CARD OF 'laws.FnWaitPairs'. -/
def fnWaitPairsUptoCard : Claim7 := { stood := { row := fnWaitPairsUptoRow, standIns := [], harness := (true, "0d86bebf70e6fb1861e5d2c59b89df02cabce1e6a629f398b8717d2271415b01"), looks := false }, kinds := [], alts := [], laidByText := true, laidKinds := [.data], laidTests := true, laidLooks := .later }
def FnWaitPairsUptoCardSaid : Prop := Claim7.holds Tryd.pinned (.plain (OpenSpec.upto fnWaitPairsSpec)) fnWaitPairsUptoCard

/-- THE SECOND FORM's CARD OF 'laws.FnNoRound'. -/
def fnNoRoundUptoCard : Claim7 := { stood := { row := fnNoRoundUptoRow, standIns := [], harness := (true, "0d86bebf70e6fb1861e5d2c59b89df02cabce1e6a629f398b8717d2271415b01"), looks := false }, kinds := [], alts := [], laidByText := true, laidKinds := [.data], laidTests := true, laidLooks := .later }
def FnNoRoundUptoCardSaid : Prop := Claim7.holds Tryd.pinned (.plain (OpenSpec.upto fnNoRoundSpec)) fnNoRoundUptoCard

/-- THE SECOND FORM's CARD OF 'laws.FnRouteNoRound'. -/
def fnRouteNoRoundUptoCard : Claim7 := { stood := { row := fnRouteNoRoundUptoRow, standIns := [], harness := (true, "0d86bebf70e6fb1861e5d2c59b89df02cabce1e6a629f398b8717d2271415b01"), looks := false }, kinds := [], alts := [], laidByText := true, laidKinds := [.data], laidTests := true, laidLooks := .later }
def FnRouteNoRoundUptoCardSaid : Prop := Claim7.holds Tryd.pinned (.plain (OpenSpec.upto fnRouteNoRoundSpec)) fnRouteNoRoundUptoCard

/-- THE SECOND FORM's CARD OF 'laws.FnAlone'. -/
def fnAloneUptoCard : Claim7 := { stood := { row := fnAloneUptoRow, standIns := [], harness := (true, "0d86bebf70e6fb1861e5d2c59b89df02cabce1e6a629f398b8717d2271415b01"), looks := false }, kinds := [], alts := [], laidByText := true, laidKinds := [.data], laidTests := true, laidLooks := .later }
def FnAloneUptoCardSaid : Prop := Claim7.holds Tryd.pinned (.plain (OpenSpec.upto fnAloneSpec)) fnAloneUptoCard

/-- THE SECOND FORM's CARD OF 'laws.FnExactWayValid'. -/
def fnExactWayValidUptoCard : Claim7 := { stood := { row := fnExactWayValidUptoRow, standIns := [], harness := (true, "0d86bebf70e6fb1861e5d2c59b89df02cabce1e6a629f398b8717d2271415b01"), looks := false }, kinds := [], alts := [], laidByText := true, laidKinds := [.data], laidTests := true, laidLooks := .later }
def FnExactWayValidUptoCardSaid : Prop := Claim7.holds Tryd.pinned (.plain (OpenSpec.upto fnExactWayValidSpec)) fnExactWayValidUptoCard

/-- THE SECOND FORM's CARD OF 'laws.FnExactWireOf'. -/
def fnExactWireOfUptoCard : Claim7 := { stood := { row := fnExactWireOfUptoRow, standIns := [], harness := (true, "0d86bebf70e6fb1861e5d2c59b89df02cabce1e6a629f398b8717d2271415b01"), looks := false }, kinds := [], alts := [], laidByText := true, laidKinds := [.data], laidTests := true, laidLooks := .later }
def FnExactWireOfUptoCardSaid : Prop := Claim7.holds Tryd.pinned (.plain (OpenSpec.upto fnExactWireOfSpec)) fnExactWireOfUptoCard

/-- THE SECOND FORM's CARD OF 'laws.FnExactWaitsOf'. -/
def fnExactWaitsOfUptoCard : Claim7 := { stood := { row := fnExactWaitsOfUptoRow, standIns := [], harness := (true, "0d86bebf70e6fb1861e5d2c59b89df02cabce1e6a629f398b8717d2271415b01"), looks := false }, kinds := [], alts := [], laidByText := true, laidKinds := [.data], laidTests := true, laidLooks := .later }
def FnExactWaitsOfUptoCardSaid : Prop := Claim7.holds Tryd.pinned (.plain (OpenSpec.upto fnExactWaitsOfSpec)) fnExactWaitsOfUptoCard

/-- THE SECOND FORM's CARD OF 'laws.FnExactHasRound'. -/
def fnExactHasRoundUptoCard : Claim7 := { stood := { row := fnExactHasRoundUptoRow, standIns := [], harness := (true, "0d86bebf70e6fb1861e5d2c59b89df02cabce1e6a629f398b8717d2271415b01"), looks := false }, kinds := [], alts := [], laidByText := true, laidKinds := [.data], laidTests := true, laidLooks := .later }
def FnExactHasRoundUptoCardSaid : Prop := Claim7.holds Tryd.pinned (.plain (OpenSpec.upto fnExactHasRoundSpec)) fnExactHasRoundUptoCard

/-- THE SECOND FORM's CARD OF 'laws.FnExactRunWorms'. -/
def fnExactRunWormsUptoCard : Claim7 := { stood := { row := fnExactRunWormsUptoRow, standIns := [], harness := (true, "0d86bebf70e6fb1861e5d2c59b89df02cabce1e6a629f398b8717d2271415b01"), looks := false }, kinds := [], alts := [], laidByText := true, laidKinds := [.data], laidTests := true, laidLooks := .later }
def FnExactRunWormsUptoCardSaid : Prop := Claim7.holds Tryd.pinned (.plain (OpenSpec.upto fnExactRunWormsSpec)) fnExactRunWormsUptoCard
end Rows
end Go.Proofs.YthcfjnedpffbbaaDoor

/-
  DERIVED. GIVEN WITH THE SEED: THE CARDS: each row of YtfflpooiebeagaaDoorRows.lean that lists a variable, with what it lists TIED to the program's text (the seventh form; the later family's looks); each row that meets fmt, with fmt's text TOLD by the authors' own Lean function (tested against real Go, not proved from fmt's source: count such statements apart). THE CARD IS WHAT COUNTS. Prove the row's statement (the work); the ties are given (YtfflpooiebeagaaDoorTie.lean); close each card by the builder's one call (the guide's Derived/Test/ToyasCard.lean, 'card_holds'). Laid BY PROGRAM, IN A SANDBOX (cutbox-door.mjs). By AI agents, Wed Nov 11 2026. No macro, syntax, notation, axiom, sorry.
-/
import Derived.Test.YtfflpooiebeagaaDoorRows
import GoSem.ClaimSeven
namespace Go.Proofs.YtfflpooiebeagaaDoor
namespace Rows

/-- THE TIED CARD OF 'posthornlaw07.BoxOpens'. -/
def boxOpensCard : Claim7 := { stood := { row := boxOpensRow, standIns := [], harness := (true, "9677eec8ce5c47192f0010235bd60c708cab0189e79c1edc052fcddc1bd1ef9e"), looks := false }, kinds := [], alts := [], laidByText := true, laidKinds := [.data, .data, .data], laidTests := true, laidLooks := .later }
def BoxOpensCardSaid : Prop := Claim7.holds Tryd.pinned (.plain (OpenSpec.ofChange boxOpensSpec)) boxOpensCard

/-- THE TIED CARD OF 'posthornlaw07.BoxBlind'. -/
def boxBlindCard : Claim7 := { stood := { row := boxBlindRow, standIns := [], harness := (true, "9677eec8ce5c47192f0010235bd60c708cab0189e79c1edc052fcddc1bd1ef9e"), looks := false }, kinds := [], alts := [], laidByText := true, laidKinds := [.data, .data, .data], laidTests := true, laidLooks := .later }
def BoxBlindCardSaid : Prop := Claim7.holds Tryd.pinned (.plain (OpenSpec.ofChange boxBlindSpec)) boxBlindCard

/-- THE TIED CARD OF 'posthornlaw07.BoxNonces'. -/
def boxNoncesCard : Claim7 := { stood := { row := boxNoncesRow, standIns := [], harness := (true, "9677eec8ce5c47192f0010235bd60c708cab0189e79c1edc052fcddc1bd1ef9e"), looks := false }, kinds := [], alts := [], laidByText := true, laidKinds := [.data, .data, .data], laidTests := true, laidLooks := .later }
def BoxNoncesCardSaid : Prop := Claim7.holds Tryd.pinned (.plain (OpenSpec.ofChange boxNoncesSpec)) boxNoncesCard

/-- THE SECOND FORM's CARD OF 'posthornlaw07.BoxOpens'. -/
def boxOpensUptoCard : Claim7 := { stood := { row := boxOpensUptoRow, standIns := [], harness := (true, "9677eec8ce5c47192f0010235bd60c708cab0189e79c1edc052fcddc1bd1ef9e"), looks := false }, kinds := [], alts := [], laidByText := true, laidKinds := [.data, .data, .data], laidTests := true, laidLooks := .later }
def BoxOpensUptoCardSaid : Prop := Claim7.holds Tryd.pinned (.plain (OpenSpec.upto boxOpensSpec)) boxOpensUptoCard

/-- THE SECOND FORM's CARD OF 'posthornlaw07.BoxBlind'. -/
def boxBlindUptoCard : Claim7 := { stood := { row := boxBlindUptoRow, standIns := [], harness := (true, "9677eec8ce5c47192f0010235bd60c708cab0189e79c1edc052fcddc1bd1ef9e"), looks := false }, kinds := [], alts := [], laidByText := true, laidKinds := [.data, .data, .data], laidTests := true, laidLooks := .later }
def BoxBlindUptoCardSaid : Prop := Claim7.holds Tryd.pinned (.plain (OpenSpec.upto boxBlindSpec)) boxBlindUptoCard

/-- THE SECOND FORM's CARD OF 'posthornlaw07.BoxNonces'. -/
def boxNoncesUptoCard : Claim7 := { stood := { row := boxNoncesUptoRow, standIns := [], harness := (true, "9677eec8ce5c47192f0010235bd60c708cab0189e79c1edc052fcddc1bd1ef9e"), looks := false }, kinds := [], alts := [], laidByText := true, laidKinds := [.data, .data, .data], laidTests := true, laidLooks := .later }
def BoxNoncesUptoCardSaid : Prop := Claim7.holds Tryd.pinned (.plain (OpenSpec.upto boxNoncesSpec)) boxNoncesUptoCard
end Rows
end Go.Proofs.YtfflpooiebeagaaDoor

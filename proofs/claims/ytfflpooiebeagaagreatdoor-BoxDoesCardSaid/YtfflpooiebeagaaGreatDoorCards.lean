/-
  DERIVED. GIVEN WITH THE SEED: THE CARDS: each row of YtfflpooiebeagaaGreatDoorRows.lean that lists a variable, with what it lists TIED to the program's text (the seventh form; the later family's looks); each row that meets fmt, with fmt's text TOLD by the authors' own Lean function (tested against real Go, not proved from fmt's source: count such statements apart). THE CARD IS WHAT COUNTS. Prove the row's statement (the work); the ties are given (YtfflpooiebeagaaGreatDoorTie.lean); close each card by the builder's one call (the guide's Derived/Test/ToyasCard.lean, 'card_holds'). Laid BY PROGRAM, IN A SANDBOX (cutbox-door.mjs). By AI agents, Wed Nov 11 2026. No macro, syntax, notation, axiom, sorry.
-/
import Derived.Test.YtfflpooiebeagaaGreatDoorRows
import GoSem.ClaimSeven
namespace Go.Proofs.YtfflpooiebeagaaGreatDoor
namespace Rows

/-- THE TIED CARD OF 'posthornlaw07.BoxDoes'. -/
def boxDoesCard : Claim7 := { stood := { row := boxDoesRow, standIns := [], harness := (true, "e4b1f92eba1845cf48d1f67576c158bd1a98375451fe963ddc9e59a04f261e9f"), looks := false }, kinds := [], alts := [], laidByText := true, laidKinds := [.data, .data, .data], laidTests := true, laidLooks := .later }
def BoxDoesCardSaid : Prop := Claim7.holds Tryz.pinned (.plain (OpenSpec.ofChange boxDoesSpec)) boxDoesCard

/-- THE TIED CARD OF 'posthornlaw07.BoxKeys'. -/
def boxKeysCard : Claim7 := { stood := { row := boxKeysRow, standIns := [], harness := (true, "e4b1f92eba1845cf48d1f67576c158bd1a98375451fe963ddc9e59a04f261e9f"), looks := false }, kinds := [], alts := [], laidByText := true, laidKinds := [.data, .data, .data], laidTests := true, laidLooks := .later }
def BoxKeysCardSaid : Prop := Claim7.holds Tryz.pinned (.plain (OpenSpec.ofChange boxKeysSpec)) boxKeysCard

/-- THE TIED CARD OF 'posthornlaw07.BoxReal'. -/
def boxRealCard : Claim7 := { stood := { row := boxRealRow, standIns := [], harness := (true, "e4b1f92eba1845cf48d1f67576c158bd1a98375451fe963ddc9e59a04f261e9f"), looks := false }, kinds := [], alts := [], laidByText := true, laidKinds := [.data, .data, .data], laidTests := true, laidLooks := .later }
def BoxRealCardSaid : Prop := Claim7.holds Tryz.pinned (.plain (OpenSpec.ofChange boxRealSpec)) boxRealCard

/-- THE SECOND FORM's CARD OF 'posthornlaw07.BoxDoes'. -/
def boxDoesUptoCard : Claim7 := { stood := { row := boxDoesUptoRow, standIns := [], harness := (true, "e4b1f92eba1845cf48d1f67576c158bd1a98375451fe963ddc9e59a04f261e9f"), looks := false }, kinds := [], alts := [], laidByText := true, laidKinds := [.data, .data, .data], laidTests := true, laidLooks := .later }
def BoxDoesUptoCardSaid : Prop := Claim7.holds Tryz.pinned (.plain (OpenSpec.upto boxDoesSpec)) boxDoesUptoCard

/-- THE SECOND FORM's CARD OF 'posthornlaw07.BoxKeys'. -/
def boxKeysUptoCard : Claim7 := { stood := { row := boxKeysUptoRow, standIns := [], harness := (true, "e4b1f92eba1845cf48d1f67576c158bd1a98375451fe963ddc9e59a04f261e9f"), looks := false }, kinds := [], alts := [], laidByText := true, laidKinds := [.data, .data, .data], laidTests := true, laidLooks := .later }
def BoxKeysUptoCardSaid : Prop := Claim7.holds Tryz.pinned (.plain (OpenSpec.upto boxKeysSpec)) boxKeysUptoCard

/-- THE SECOND FORM's CARD OF 'posthornlaw07.BoxReal'. -/
def boxRealUptoCard : Claim7 := { stood := { row := boxRealUptoRow, standIns := [], harness := (true, "e4b1f92eba1845cf48d1f67576c158bd1a98375451fe963ddc9e59a04f261e9f"), looks := false }, kinds := [], alts := [], laidByText := true, laidKinds := [.data, .data, .data], laidTests := true, laidLooks := .later }
def BoxRealUptoCardSaid : Prop := Claim7.holds Tryz.pinned (.plain (OpenSpec.upto boxRealSpec)) boxRealUptoCard
end Rows
end Go.Proofs.YtfflpooiebeagaaGreatDoor

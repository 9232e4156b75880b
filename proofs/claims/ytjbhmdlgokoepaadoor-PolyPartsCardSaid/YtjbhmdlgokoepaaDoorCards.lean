/-
  DERIVED. GIVEN WITH THE SEED: THE CARDS: each row of YtjbhmdlgokoepaaDoorRows.lean that lists a variable, with what it lists TIED to the program's text (the seventh form; the later family's looks); each row that meets fmt, with fmt's text TOLD by the authors' own Lean function (tested against real Go, not proved from fmt's source: count such statements apart). THE CARD IS WHAT COUNTS. Prove the row's statement (the work); the ties are given (YtjbhmdlgokoepaaDoorTie.lean); close each card by the builder's one call (the guide's Derived/Test/ToyasCard.lean, 'card_holds'). Laid BY PROGRAM, IN A SANDBOX (cutbox-door.mjs). By AI agents, Wed Nov 11 2026. No macro, syntax, notation, axiom, sorry.
-/
import Derived.Test.YtjbhmdlgokoepaaDoorRows
import GoSem.ClaimSeven
namespace Go.Proofs.YtjbhmdlgokoepaaDoor
namespace Rows

/-- THE TIED CARD OF 'posthornlaw05.PolyTells'. -/
def polyTellsCard : Claim7 := { stood := { row := polyTellsRow, standIns := [], harness := (true, "99e7e28fcbb63dc3ae4b37784cb16449b0de84e75469bba4fc240aebf1666fc3"), looks := false }, kinds := [], alts := [], laidByText := true, laidKinds := [.data], laidTests := true, laidLooks := .later }
def PolyTellsCardSaid : Prop := Claim7.holds Tryd.pinned (.plain (OpenSpec.ofChange polyTellsSpec)) polyTellsCard

/-- THE TIED CARD OF 'posthornlaw05.PolyParts'. -/
def polyPartsCard : Claim7 := { stood := { row := polyPartsRow, standIns := [], harness := (true, "99e7e28fcbb63dc3ae4b37784cb16449b0de84e75469bba4fc240aebf1666fc3"), looks := false }, kinds := [], alts := [], laidByText := true, laidKinds := [.data], laidTests := true, laidLooks := .later }
def PolyPartsCardSaid : Prop := Claim7.holds Tryd.pinned (.plain (OpenSpec.ofChange polyPartsSpec)) polyPartsCard

/-- THE TIED CARD OF 'posthornlaw05.PolyClamps'. -/
def polyClampsCard : Claim7 := { stood := { row := polyClampsRow, standIns := [], harness := (true, "99e7e28fcbb63dc3ae4b37784cb16449b0de84e75469bba4fc240aebf1666fc3"), looks := false }, kinds := [], alts := [], laidByText := true, laidKinds := [.data], laidTests := true, laidLooks := .later }
def PolyClampsCardSaid : Prop := Claim7.holds Tryd.pinned (.plain (OpenSpec.ofChange polyClampsSpec)) polyClampsCard

/-- THE TIED CARD OF 'posthornlaw05.PolyAdds'. -/
def polyAddsCard : Claim7 := { stood := { row := polyAddsRow, standIns := [], harness := (true, "99e7e28fcbb63dc3ae4b37784cb16449b0de84e75469bba4fc240aebf1666fc3"), looks := false }, kinds := [], alts := [], laidByText := true, laidKinds := [.data], laidTests := true, laidLooks := .later }
def PolyAddsCardSaid : Prop := Claim7.holds Tryd.pinned (.plain (OpenSpec.ofChange polyAddsSpec)) polyAddsCard

/-- THE TIED CARD OF 'posthornlaw05.PolyOne'. -/
def polyOneCard : Claim7 := { stood := { row := polyOneRow, standIns := [], harness := (true, "99e7e28fcbb63dc3ae4b37784cb16449b0de84e75469bba4fc240aebf1666fc3"), looks := false }, kinds := [], alts := [], laidByText := true, laidKinds := [.data], laidTests := true, laidLooks := .later }
def PolyOneCardSaid : Prop := Claim7.holds Tryd.pinned (.plain (OpenSpec.ofChange polyOneSpec)) polyOneCard

/-- THE TIED CARD OF 'posthornlaw05.PolySizes'. -/
def polySizesCard : Claim7 := { stood := { row := polySizesRow, standIns := [], harness := (true, "99e7e28fcbb63dc3ae4b37784cb16449b0de84e75469bba4fc240aebf1666fc3"), looks := false }, kinds := [], alts := [], laidByText := true, laidKinds := [.data], laidTests := true, laidLooks := .later }
def PolySizesCardSaid : Prop := Claim7.holds Tryd.pinned (.plain (OpenSpec.ofChange polySizesSpec)) polySizesCard

/-- THE SECOND FORM's CARD OF 'posthornlaw05.PolyTells'. -/
def polyTellsUptoCard : Claim7 := { stood := { row := polyTellsUptoRow, standIns := [], harness := (true, "99e7e28fcbb63dc3ae4b37784cb16449b0de84e75469bba4fc240aebf1666fc3"), looks := false }, kinds := [], alts := [], laidByText := true, laidKinds := [.data], laidTests := true, laidLooks := .later }
def PolyTellsUptoCardSaid : Prop := Claim7.holds Tryd.pinned (.plain (OpenSpec.upto polyTellsSpec)) polyTellsUptoCard

/-- THE SECOND FORM's CARD OF 'posthornlaw05.PolyParts'. -/
def polyPartsUptoCard : Claim7 := { stood := { row := polyPartsUptoRow, standIns := [], harness := (true, "99e7e28fcbb63dc3ae4b37784cb16449b0de84e75469bba4fc240aebf1666fc3"), looks := false }, kinds := [], alts := [], laidByText := true, laidKinds := [.data], laidTests := true, laidLooks := .later }
def PolyPartsUptoCardSaid : Prop := Claim7.holds Tryd.pinned (.plain (OpenSpec.upto polyPartsSpec)) polyPartsUptoCard

/-- THE SECOND FORM's CARD OF 'posthornlaw05.PolyClamps'. -/
def polyClampsUptoCard : Claim7 := { stood := { row := polyClampsUptoRow, standIns := [], harness := (true, "99e7e28fcbb63dc3ae4b37784cb16449b0de84e75469bba4fc240aebf1666fc3"), looks := false }, kinds := [], alts := [], laidByText := true, laidKinds := [.data], laidTests := true, laidLooks := .later }
def PolyClampsUptoCardSaid : Prop := Claim7.holds Tryd.pinned (.plain (OpenSpec.upto polyClampsSpec)) polyClampsUptoCard

/-- THE SECOND FORM's CARD OF 'posthornlaw05.PolyAdds'. -/
def polyAddsUptoCard : Claim7 := { stood := { row := polyAddsUptoRow, standIns := [], harness := (true, "99e7e28fcbb63dc3ae4b37784cb16449b0de84e75469bba4fc240aebf1666fc3"), looks := false }, kinds := [], alts := [], laidByText := true, laidKinds := [.data], laidTests := true, laidLooks := .later }
def PolyAddsUptoCardSaid : Prop := Claim7.holds Tryd.pinned (.plain (OpenSpec.upto polyAddsSpec)) polyAddsUptoCard

/-- THE SECOND FORM's CARD OF 'posthornlaw05.PolyOne'. -/
def polyOneUptoCard : Claim7 := { stood := { row := polyOneUptoRow, standIns := [], harness := (true, "99e7e28fcbb63dc3ae4b37784cb16449b0de84e75469bba4fc240aebf1666fc3"), looks := false }, kinds := [], alts := [], laidByText := true, laidKinds := [.data], laidTests := true, laidLooks := .later }
def PolyOneUptoCardSaid : Prop := Claim7.holds Tryd.pinned (.plain (OpenSpec.upto polyOneSpec)) polyOneUptoCard

/-- THE SECOND FORM's CARD OF 'posthornlaw05.PolySizes'. -/
def polySizesUptoCard : Claim7 := { stood := { row := polySizesUptoRow, standIns := [], harness := (true, "99e7e28fcbb63dc3ae4b37784cb16449b0de84e75469bba4fc240aebf1666fc3"), looks := false }, kinds := [], alts := [], laidByText := true, laidKinds := [.data], laidTests := true, laidLooks := .later }
def PolySizesUptoCardSaid : Prop := Claim7.holds Tryd.pinned (.plain (OpenSpec.upto polySizesSpec)) polySizesUptoCard
end Rows
end Go.Proofs.YtjbhmdlgokoepaaDoor

/-
  DERIVED. GIVEN WITH THE SEED: THE CARDS: each row of YtppikhhapaejjaaDoorRows.lean that lists a variable, with what it lists TIED to the program's text (the seventh form; the later family's looks); each row that meets fmt, with fmt's text TOLD by the authors' own Lean function (tested against real Go, not proved from fmt's source: count such statements apart). THE CARD IS WHAT COUNTS. Prove the row's statement (the work); the ties are given (YtppikhhapaejjaaDoorTie.lean); close each card by the builder's one call (the guide's Derived/Test/ToyasCard.lean, 'card_holds'). Laid BY PROGRAM, IN A SANDBOX (cutbox-door.mjs). By AI agents, Wed Nov 11 2026. No macro, syntax, notation, axiom, sorry.
-/
import Derived.Test.YtppikhhapaejjaaDoorRows
import GoSem.ClaimSeven
namespace Go.Proofs.YtppikhhapaejjaaDoor
namespace Rows

/-- THE TIED CARD OF 'posthornlaw06.AeadSeals'. -/
def aeadSealsCard : Claim7 := { stood := { row := aeadSealsRow, standIns := [], harness := (true, "b0575395f7c135b9eacc9b999ce2266f66ce060b5a5e6b20bf9e1978fb50b55e"), looks := false }, kinds := [], alts := [], laidByText := true, laidKinds := [.data, .data], laidTests := true, laidLooks := .later }
def AeadSealsCardSaid : Prop := Claim7.holds Tryd.pinned (.plain (OpenSpec.ofChange aeadSealsSpec)) aeadSealsCard

/-- THE TIED CARD OF 'posthornlaw06.AeadOpens'. -/
def aeadOpensCard : Claim7 := { stood := { row := aeadOpensRow, standIns := [], harness := (true, "b0575395f7c135b9eacc9b999ce2266f66ce060b5a5e6b20bf9e1978fb50b55e"), looks := false }, kinds := [], alts := [], laidByText := true, laidKinds := [.data, .data], laidTests := true, laidLooks := .later }
def AeadOpensCardSaid : Prop := Claim7.holds Tryd.pinned (.plain (OpenSpec.ofChange aeadOpensSpec)) aeadOpensCard

/-- THE TIED CARD OF 'posthornlaw06.AeadBack'. -/
def aeadBackCard : Claim7 := { stood := { row := aeadBackRow, standIns := [], harness := (true, "b0575395f7c135b9eacc9b999ce2266f66ce060b5a5e6b20bf9e1978fb50b55e"), looks := false }, kinds := [], alts := [], laidByText := true, laidKinds := [.data, .data], laidTests := true, laidLooks := .later }
def AeadBackCardSaid : Prop := Claim7.holds Tryd.pinned (.plain (OpenSpec.ofChange aeadBackSpec)) aeadBackCard

/-- THE TIED CARD OF 'posthornlaw06.AeadTurned'. -/
def aeadTurnedCard : Claim7 := { stood := { row := aeadTurnedRow, standIns := [], harness := (true, "b0575395f7c135b9eacc9b999ce2266f66ce060b5a5e6b20bf9e1978fb50b55e"), looks := false }, kinds := [], alts := [], laidByText := true, laidKinds := [.data, .data], laidTests := true, laidLooks := .later }
def AeadTurnedCardSaid : Prop := Claim7.holds Tryd.pinned (.plain (OpenSpec.ofChange aeadTurnedSpec)) aeadTurnedCard

/-- THE TIED CARD OF 'posthornlaw06.AeadCovers'. -/
def aeadCoversCard : Claim7 := { stood := { row := aeadCoversRow, standIns := [], harness := (true, "b0575395f7c135b9eacc9b999ce2266f66ce060b5a5e6b20bf9e1978fb50b55e"), looks := false }, kinds := [], alts := [], laidByText := true, laidKinds := [.data, .data], laidTests := true, laidLooks := .later }
def AeadCoversCardSaid : Prop := Claim7.holds Tryd.pinned (.plain (OpenSpec.ofChange aeadCoversSpec)) aeadCoversCard

/-- THE TIED CARD OF 'posthornlaw06.AeadSizes'. -/
def aeadSizesCard : Claim7 := { stood := { row := aeadSizesRow, standIns := [], harness := (true, "b0575395f7c135b9eacc9b999ce2266f66ce060b5a5e6b20bf9e1978fb50b55e"), looks := false }, kinds := [], alts := [], laidByText := true, laidKinds := [.data, .data], laidTests := true, laidLooks := .later }
def AeadSizesCardSaid : Prop := Claim7.holds Tryd.pinned (.plain (OpenSpec.ofChange aeadSizesSpec)) aeadSizesCard

/-- THE SECOND FORM's CARD OF 'posthornlaw06.AeadSeals'. -/
def aeadSealsUptoCard : Claim7 := { stood := { row := aeadSealsUptoRow, standIns := [], harness := (true, "b0575395f7c135b9eacc9b999ce2266f66ce060b5a5e6b20bf9e1978fb50b55e"), looks := false }, kinds := [], alts := [], laidByText := true, laidKinds := [.data, .data], laidTests := true, laidLooks := .later }
def AeadSealsUptoCardSaid : Prop := Claim7.holds Tryd.pinned (.plain (OpenSpec.upto aeadSealsSpec)) aeadSealsUptoCard

/-- THE SECOND FORM's CARD OF 'posthornlaw06.AeadOpens'. -/
def aeadOpensUptoCard : Claim7 := { stood := { row := aeadOpensUptoRow, standIns := [], harness := (true, "b0575395f7c135b9eacc9b999ce2266f66ce060b5a5e6b20bf9e1978fb50b55e"), looks := false }, kinds := [], alts := [], laidByText := true, laidKinds := [.data, .data], laidTests := true, laidLooks := .later }
def AeadOpensUptoCardSaid : Prop := Claim7.holds Tryd.pinned (.plain (OpenSpec.upto aeadOpensSpec)) aeadOpensUptoCard

/-- THE SECOND FORM's CARD OF 'posthornlaw06.AeadBack'. -/
def aeadBackUptoCard : Claim7 := { stood := { row := aeadBackUptoRow, standIns := [], harness := (true, "b0575395f7c135b9eacc9b999ce2266f66ce060b5a5e6b20bf9e1978fb50b55e"), looks := false }, kinds := [], alts := [], laidByText := true, laidKinds := [.data, .data], laidTests := true, laidLooks := .later }
def AeadBackUptoCardSaid : Prop := Claim7.holds Tryd.pinned (.plain (OpenSpec.upto aeadBackSpec)) aeadBackUptoCard

/-- THE SECOND FORM's CARD OF 'posthornlaw06.AeadTurned'. -/
def aeadTurnedUptoCard : Claim7 := { stood := { row := aeadTurnedUptoRow, standIns := [], harness := (true, "b0575395f7c135b9eacc9b999ce2266f66ce060b5a5e6b20bf9e1978fb50b55e"), looks := false }, kinds := [], alts := [], laidByText := true, laidKinds := [.data, .data], laidTests := true, laidLooks := .later }
def AeadTurnedUptoCardSaid : Prop := Claim7.holds Tryd.pinned (.plain (OpenSpec.upto aeadTurnedSpec)) aeadTurnedUptoCard

/-- THE SECOND FORM's CARD OF 'posthornlaw06.AeadCovers'. -/
def aeadCoversUptoCard : Claim7 := { stood := { row := aeadCoversUptoRow, standIns := [], harness := (true, "b0575395f7c135b9eacc9b999ce2266f66ce060b5a5e6b20bf9e1978fb50b55e"), looks := false }, kinds := [], alts := [], laidByText := true, laidKinds := [.data, .data], laidTests := true, laidLooks := .later }
def AeadCoversUptoCardSaid : Prop := Claim7.holds Tryd.pinned (.plain (OpenSpec.upto aeadCoversSpec)) aeadCoversUptoCard

/-- THE SECOND FORM's CARD OF 'posthornlaw06.AeadSizes'. -/
def aeadSizesUptoCard : Claim7 := { stood := { row := aeadSizesUptoRow, standIns := [], harness := (true, "b0575395f7c135b9eacc9b999ce2266f66ce060b5a5e6b20bf9e1978fb50b55e"), looks := false }, kinds := [], alts := [], laidByText := true, laidKinds := [.data, .data], laidTests := true, laidLooks := .later }
def AeadSizesUptoCardSaid : Prop := Claim7.holds Tryd.pinned (.plain (OpenSpec.upto aeadSizesSpec)) aeadSizesUptoCard
end Rows
end Go.Proofs.YtppikhhapaejjaaDoor

/-
  DERIVED. GIVEN WITH THE SEED: THE CARDS: each row of YtebhmcnocpblkaaDoorRows.lean that lists a variable, with what it lists TIED to the program's text (the seventh form; the later family's looks); each row that meets fmt, with fmt's text TOLD by the authors' own Lean function (tested against real Go, not proved from fmt's source: count such statements apart). THE CARD IS WHAT COUNTS. Prove the row's statement (the work); the ties are given (YtebhmcnocpblkaaDoorTie.lean); close each card by the builder's one call (the guide's Derived/Test/ToyasCard.lean, 'card_holds'). Laid BY PROGRAM, IN A SANDBOX (cutbox-door.mjs). By AI agents, Wed Nov 11 2026. No macro, syntax, notation, axiom, sorry.
-/
import Derived.Test.YtebhmcnocpblkaaDoorRows
import GoSem.ClaimSeven
namespace Go.Proofs.YtebhmcnocpblkaaDoor
namespace Rows

/-- THE TIED CARD OF 'posthornlaw04.ChachaTells'. -/
def chachaTellsCard : Claim7 := { stood := { row := chachaTellsRow, standIns := [], harness := (true, "4c4addab10ef54480460bcd7b4b0c81692ce4f48f61a9f316e9c754439cb455a"), looks := false }, kinds := [], alts := [], laidByText := true, laidKinds := [.data], laidTests := true, laidLooks := .later }
def ChachaTellsCardSaid : Prop := Claim7.holds Tryd.pinned (.plain (OpenSpec.ofChange chachaTellsSpec)) chachaTellsCard

/-- THE TIED CARD OF 'posthornlaw04.ChachaStreams'. -/
def chachaStreamsCard : Claim7 := { stood := { row := chachaStreamsRow, standIns := [], harness := (true, "4c4addab10ef54480460bcd7b4b0c81692ce4f48f61a9f316e9c754439cb455a"), looks := false }, kinds := [], alts := [], laidByText := true, laidKinds := [.data], laidTests := true, laidLooks := .later }
def ChachaStreamsCardSaid : Prop := Claim7.holds Tryd.pinned (.plain (OpenSpec.ofChange chachaStreamsSpec)) chachaStreamsCard

/-- THE TIED CARD OF 'posthornlaw04.ChachaBack'. -/
def chachaBackCard : Claim7 := { stood := { row := chachaBackRow, standIns := [], harness := (true, "4c4addab10ef54480460bcd7b4b0c81692ce4f48f61a9f316e9c754439cb455a"), looks := false }, kinds := [], alts := [], laidByText := true, laidKinds := [.data], laidTests := true, laidLooks := .later }
def ChachaBackCardSaid : Prop := Claim7.holds Tryd.pinned (.plain (OpenSpec.ofChange chachaBackSpec)) chachaBackCard

/-- THE TIED CARD OF 'posthornlaw04.ChachaRest'. -/
def chachaRestCard : Claim7 := { stood := { row := chachaRestRow, standIns := [], harness := (true, "4c4addab10ef54480460bcd7b4b0c81692ce4f48f61a9f316e9c754439cb455a"), looks := false }, kinds := [], alts := [], laidByText := true, laidKinds := [.data], laidTests := true, laidLooks := .later }
def ChachaRestCardSaid : Prop := Claim7.holds Tryd.pinned (.plain (OpenSpec.ofChange chachaRestSpec)) chachaRestCard

/-- THE TIED CARD OF 'posthornlaw04.ChachaStirs'. -/
def chachaStirsCard : Claim7 := { stood := { row := chachaStirsRow, standIns := [], harness := (true, "4c4addab10ef54480460bcd7b4b0c81692ce4f48f61a9f316e9c754439cb455a"), looks := false }, kinds := [], alts := [], laidByText := true, laidKinds := [.data], laidTests := true, laidLooks := .later }
def ChachaStirsCardSaid : Prop := Claim7.holds Tryd.pinned (.plain (OpenSpec.ofChange chachaStirsSpec)) chachaStirsCard

/-- THE TIED CARD OF 'posthornlaw04.ChachaSizes'. -/
def chachaSizesCard : Claim7 := { stood := { row := chachaSizesRow, standIns := [], harness := (true, "4c4addab10ef54480460bcd7b4b0c81692ce4f48f61a9f316e9c754439cb455a"), looks := false }, kinds := [], alts := [], laidByText := true, laidKinds := [.data], laidTests := true, laidLooks := .later }
def ChachaSizesCardSaid : Prop := Claim7.holds Tryd.pinned (.plain (OpenSpec.ofChange chachaSizesSpec)) chachaSizesCard

/-- THE SECOND FORM's CARD OF 'posthornlaw04.ChachaTells'. -/
def chachaTellsUptoCard : Claim7 := { stood := { row := chachaTellsUptoRow, standIns := [], harness := (true, "4c4addab10ef54480460bcd7b4b0c81692ce4f48f61a9f316e9c754439cb455a"), looks := false }, kinds := [], alts := [], laidByText := true, laidKinds := [.data], laidTests := true, laidLooks := .later }
def ChachaTellsUptoCardSaid : Prop := Claim7.holds Tryd.pinned (.plain (OpenSpec.upto chachaTellsSpec)) chachaTellsUptoCard

/-- THE SECOND FORM's CARD OF 'posthornlaw04.ChachaStreams'. -/
def chachaStreamsUptoCard : Claim7 := { stood := { row := chachaStreamsUptoRow, standIns := [], harness := (true, "4c4addab10ef54480460bcd7b4b0c81692ce4f48f61a9f316e9c754439cb455a"), looks := false }, kinds := [], alts := [], laidByText := true, laidKinds := [.data], laidTests := true, laidLooks := .later }
def ChachaStreamsUptoCardSaid : Prop := Claim7.holds Tryd.pinned (.plain (OpenSpec.upto chachaStreamsSpec)) chachaStreamsUptoCard

/-- THE SECOND FORM's CARD OF 'posthornlaw04.ChachaBack'. -/
def chachaBackUptoCard : Claim7 := { stood := { row := chachaBackUptoRow, standIns := [], harness := (true, "4c4addab10ef54480460bcd7b4b0c81692ce4f48f61a9f316e9c754439cb455a"), looks := false }, kinds := [], alts := [], laidByText := true, laidKinds := [.data], laidTests := true, laidLooks := .later }
def ChachaBackUptoCardSaid : Prop := Claim7.holds Tryd.pinned (.plain (OpenSpec.upto chachaBackSpec)) chachaBackUptoCard

/-- THE SECOND FORM's CARD OF 'posthornlaw04.ChachaRest'. -/
def chachaRestUptoCard : Claim7 := { stood := { row := chachaRestUptoRow, standIns := [], harness := (true, "4c4addab10ef54480460bcd7b4b0c81692ce4f48f61a9f316e9c754439cb455a"), looks := false }, kinds := [], alts := [], laidByText := true, laidKinds := [.data], laidTests := true, laidLooks := .later }
def ChachaRestUptoCardSaid : Prop := Claim7.holds Tryd.pinned (.plain (OpenSpec.upto chachaRestSpec)) chachaRestUptoCard

/-- THE SECOND FORM's CARD OF 'posthornlaw04.ChachaStirs'. -/
def chachaStirsUptoCard : Claim7 := { stood := { row := chachaStirsUptoRow, standIns := [], harness := (true, "4c4addab10ef54480460bcd7b4b0c81692ce4f48f61a9f316e9c754439cb455a"), looks := false }, kinds := [], alts := [], laidByText := true, laidKinds := [.data], laidTests := true, laidLooks := .later }
def ChachaStirsUptoCardSaid : Prop := Claim7.holds Tryd.pinned (.plain (OpenSpec.upto chachaStirsSpec)) chachaStirsUptoCard

/-- THE SECOND FORM's CARD OF 'posthornlaw04.ChachaSizes'. -/
def chachaSizesUptoCard : Claim7 := { stood := { row := chachaSizesUptoRow, standIns := [], harness := (true, "4c4addab10ef54480460bcd7b4b0c81692ce4f48f61a9f316e9c754439cb455a"), looks := false }, kinds := [], alts := [], laidByText := true, laidKinds := [.data], laidTests := true, laidLooks := .later }
def ChachaSizesUptoCardSaid : Prop := Claim7.holds Tryd.pinned (.plain (OpenSpec.upto chachaSizesSpec)) chachaSizesUptoCard
end Rows
end Go.Proofs.YtebhmcnocpblkaaDoor

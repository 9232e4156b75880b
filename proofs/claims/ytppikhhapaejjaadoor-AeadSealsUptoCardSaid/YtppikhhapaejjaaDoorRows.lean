/-
  NARROWER THAN 'FOR EVERY INPUT', by the rows' own cells (each row's printed sentence says how): AeadSeals: laid · AeadOpens: laid · AeadBack: laid · AeadTurned: laid · AeadCovers: laid · AeadSizes: laid.
  DERIVED. THE GIVEN ROWS OF THIS SEAT. 6 by the template 'for every input the law returns true; each argument reads behind the call as it read before'; 0 by the template 'total and deterministic' (their statements: YtppikhhapaejjaaDoorTotals.lean).
  GIVEN WITH THE SEED: the statements are not yours to turn. If you find one false, say at which input.
  Laid BY PROGRAM, IN A SANDBOX (cutbox-rows.mjs): the forced cells as the released guide's own fill.sh prints them over the translation 4aefb46618a063f6… (all of the seat's roots in one cut). By AI agents, Wed Nov 11 2026. No macro, syntax, notation, axiom, sorry.
-/
import Derived.Test.YtppikhhapaejjaaDoorChecked
import GoSem.Claim
import GoSem.ClaimJoined
import GoSem.ClaimMapViews
import Derived.JoinedTies
import Derived.KernelRfl
namespace Go.Proofs.YtppikhhapaejjaaDoor
/- THE CELL 'sum', in the pinned program and in every row, IS THE sha256 OF THE DUMP (.gsa) THAT YtppikhhapaejjaaDoorProg.lean LOADS. Nothing in Lean hashes anything: it is a label: what it is worth is what the hold of that sum in a sandbox is worth. -/
noncomputable def Tryd.pinned : Pinned := { name := "ytppikhhapaejjaadoor", sum := "4aefb46618a063f6ffcffa68c35444deecc72b4c723ee40a440eec88de06dfcf", checked := Tryd.checked }
namespace Rows
def none {H : Type} : Left H := { results := [], args := [] }

/- WHAT THE LISTED PACKAGE-LEVEL VARIABLES READ AS WHEN THE CALL BEGINS. Each datum BY PROGRAM (the guide's laid-datum.mjs) off the statement by which the dump's own 'gosem.cut.vars' lays the variable. In a bare row this is a premise. The card (YtppikhhapaejjaaDoorCards.lean) ties it to the program's text. -/
def laid_posthorn_chacha_places {H : Type} : DataW H := .agg [.agg [.lit (.int .i64 0), .lit (.int .i64 4), .lit (.int .i64 8), .lit (.int .i64 12)], .agg [.lit (.int .i64 1), .lit (.int .i64 5), .lit (.int .i64 9), .lit (.int .i64 13)], .agg [.lit (.int .i64 2), .lit (.int .i64 6), .lit (.int .i64 10), .lit (.int .i64 14)], .agg [.lit (.int .i64 3), .lit (.int .i64 7), .lit (.int .i64 11), .lit (.int .i64 15)], .agg [.lit (.int .i64 0), .lit (.int .i64 5), .lit (.int .i64 10), .lit (.int .i64 15)], .agg [.lit (.int .i64 1), .lit (.int .i64 6), .lit (.int .i64 11), .lit (.int .i64 12)], .agg [.lit (.int .i64 2), .lit (.int .i64 7), .lit (.int .i64 8), .lit (.int .i64 13)], .agg [.lit (.int .i64 3), .lit (.int .i64 4), .lit (.int .i64 9), .lit (.int .i64 14)]]
def laid_posthorn_poly_kept {H : Type} : DataW H := .agg [.lit (.int .u8 255), .lit (.int .u8 255), .lit (.int .u8 255), .lit (.int .u8 15), .lit (.int .u8 252), .lit (.int .u8 255), .lit (.int .u8 255), .lit (.int .u8 15), .lit (.int .u8 252), .lit (.int .u8 255), .lit (.int .u8 255), .lit (.int .u8 15), .lit (.int .u8 252), .lit (.int .u8 255), .lit (.int .u8 255), .lit (.int .u8 15)]

/-- 'posthornlaw06.AeadSeals': WHATEVER THE INPUT: true; the input reads as it did. -/
def aeadSealsSpec : ChangeSpec := { name := "aeadSeals", fn := fun _ => fun
  | [d1, d2, d3, d4] => { results := [.lit (.bool true)], args := [d1, d2, d3, d4] }
  | _ => none }
def aeadSealsRow : OpenClaim := { program := "ytppikhhapaejjaadoor", sum := "4aefb46618a063f6ffcffa68c35444deecc72b4c723ee40a440eec88de06dfcf", func := "posthorn/posthornlaw06.AeadSeals", spec := "aeadSeals", inPlace := ["internal/abi.NoEscape", "internal/bytealg.MakeNoZero"], named := ["posthorn/chacha.places", "posthorn/poly.kept"], apart := false, laid := [("posthorn/chacha.places", laid_posthorn_chacha_places), ("posthorn/poly.kept", laid_posthorn_poly_kept)] }
def AeadSealsSaid : Prop := aeadSealsRow.holds Tryd.pinned (OpenSpec.ofChange aeadSealsSpec)

/-- ITS FALSE NEIGHBOUR: 'it returns false'. Refute it at one input. -/
def aeadSealsWrong : ChangeSpec := { name := "aeadSeals", fn := fun _ => fun
  | [d1, d2, d3, d4] => { results := [.lit (.bool false)], args := [d1, d2, d3, d4] }
  | _ => none }
def AeadSealsWrongFalsely : Prop := aeadSealsRow.holds Tryd.pinned (OpenSpec.ofChange aeadSealsWrong)

/-- 'posthornlaw06.AeadOpens': WHATEVER THE INPUT: true; the input reads as it did. -/
def aeadOpensSpec : ChangeSpec := { name := "aeadOpens", fn := fun _ => fun
  | [d1, d2, d3, d4] => { results := [.lit (.bool true)], args := [d1, d2, d3, d4] }
  | _ => none }
def aeadOpensRow : OpenClaim := { program := "ytppikhhapaejjaadoor", sum := "4aefb46618a063f6ffcffa68c35444deecc72b4c723ee40a440eec88de06dfcf", func := "posthorn/posthornlaw06.AeadOpens", spec := "aeadOpens", inPlace := ["internal/abi.NoEscape", "internal/bytealg.MakeNoZero"], named := ["posthorn/chacha.places", "posthorn/poly.kept"], apart := false, laid := [("posthorn/chacha.places", laid_posthorn_chacha_places), ("posthorn/poly.kept", laid_posthorn_poly_kept)] }
def AeadOpensSaid : Prop := aeadOpensRow.holds Tryd.pinned (OpenSpec.ofChange aeadOpensSpec)

/-- ITS FALSE NEIGHBOUR: 'it returns false'. Refute it at one input. -/
def aeadOpensWrong : ChangeSpec := { name := "aeadOpens", fn := fun _ => fun
  | [d1, d2, d3, d4] => { results := [.lit (.bool false)], args := [d1, d2, d3, d4] }
  | _ => none }
def AeadOpensWrongFalsely : Prop := aeadOpensRow.holds Tryd.pinned (OpenSpec.ofChange aeadOpensWrong)

/-- 'posthornlaw06.AeadBack': WHATEVER THE INPUT: true; the input reads as it did. -/
def aeadBackSpec : ChangeSpec := { name := "aeadBack", fn := fun _ => fun
  | [d1, d2, d3, d4, d5] => { results := [.lit (.bool true)], args := [d1, d2, d3, d4, d5] }
  | _ => none }
def aeadBackRow : OpenClaim := { program := "ytppikhhapaejjaadoor", sum := "4aefb46618a063f6ffcffa68c35444deecc72b4c723ee40a440eec88de06dfcf", func := "posthorn/posthornlaw06.AeadBack", spec := "aeadBack", inPlace := ["internal/abi.NoEscape", "internal/bytealg.MakeNoZero"], named := ["posthorn/chacha.places", "posthorn/poly.kept"], apart := false, laid := [("posthorn/chacha.places", laid_posthorn_chacha_places), ("posthorn/poly.kept", laid_posthorn_poly_kept)] }
def AeadBackSaid : Prop := aeadBackRow.holds Tryd.pinned (OpenSpec.ofChange aeadBackSpec)

/-- ITS FALSE NEIGHBOUR: 'it returns false'. Refute it at one input. -/
def aeadBackWrong : ChangeSpec := { name := "aeadBack", fn := fun _ => fun
  | [d1, d2, d3, d4, d5] => { results := [.lit (.bool false)], args := [d1, d2, d3, d4, d5] }
  | _ => none }
def AeadBackWrongFalsely : Prop := aeadBackRow.holds Tryd.pinned (OpenSpec.ofChange aeadBackWrong)

/-- 'posthornlaw06.AeadTurned': WHATEVER THE INPUT: true; the input reads as it did. -/
def aeadTurnedSpec : ChangeSpec := { name := "aeadTurned", fn := fun _ => fun
  | [d1, d2, d3, d4, d5, d6] => { results := [.lit (.bool true)], args := [d1, d2, d3, d4, d5, d6] }
  | _ => none }
def aeadTurnedRow : OpenClaim := { program := "ytppikhhapaejjaadoor", sum := "4aefb46618a063f6ffcffa68c35444deecc72b4c723ee40a440eec88de06dfcf", func := "posthorn/posthornlaw06.AeadTurned", spec := "aeadTurned", inPlace := ["internal/abi.NoEscape", "internal/bytealg.MakeNoZero"], named := ["posthorn/chacha.places", "posthorn/poly.kept"], apart := false, laid := [("posthorn/chacha.places", laid_posthorn_chacha_places), ("posthorn/poly.kept", laid_posthorn_poly_kept)] }
def AeadTurnedSaid : Prop := aeadTurnedRow.holds Tryd.pinned (OpenSpec.ofChange aeadTurnedSpec)

/-- ITS FALSE NEIGHBOUR: 'it returns false'. Refute it at one input. -/
def aeadTurnedWrong : ChangeSpec := { name := "aeadTurned", fn := fun _ => fun
  | [d1, d2, d3, d4, d5, d6] => { results := [.lit (.bool false)], args := [d1, d2, d3, d4, d5, d6] }
  | _ => none }
def AeadTurnedWrongFalsely : Prop := aeadTurnedRow.holds Tryd.pinned (OpenSpec.ofChange aeadTurnedWrong)

/-- 'posthornlaw06.AeadCovers': WHATEVER THE INPUT: true; the input reads as it did. -/
def aeadCoversSpec : ChangeSpec := { name := "aeadCovers", fn := fun _ => fun
  | [d1, d2, d3, d4] => { results := [.lit (.bool true)], args := [d1, d2, d3, d4] }
  | _ => none }
def aeadCoversRow : OpenClaim := { program := "ytppikhhapaejjaadoor", sum := "4aefb46618a063f6ffcffa68c35444deecc72b4c723ee40a440eec88de06dfcf", func := "posthorn/posthornlaw06.AeadCovers", spec := "aeadCovers", inPlace := ["internal/abi.NoEscape", "internal/bytealg.MakeNoZero"], named := ["posthorn/chacha.places", "posthorn/poly.kept"], apart := false, laid := [("posthorn/chacha.places", laid_posthorn_chacha_places), ("posthorn/poly.kept", laid_posthorn_poly_kept)] }
def AeadCoversSaid : Prop := aeadCoversRow.holds Tryd.pinned (OpenSpec.ofChange aeadCoversSpec)

/-- ITS FALSE NEIGHBOUR: 'it returns false'. Refute it at one input. -/
def aeadCoversWrong : ChangeSpec := { name := "aeadCovers", fn := fun _ => fun
  | [d1, d2, d3, d4] => { results := [.lit (.bool false)], args := [d1, d2, d3, d4] }
  | _ => none }
def AeadCoversWrongFalsely : Prop := aeadCoversRow.holds Tryd.pinned (OpenSpec.ofChange aeadCoversWrong)

/-- 'posthornlaw06.AeadSizes': WHATEVER THE INPUT: true; the input reads as it did. -/
def aeadSizesSpec : ChangeSpec := { name := "aeadSizes", fn := fun _ => fun
  | [d1, d2, d3, d4] => { results := [.lit (.bool true)], args := [d1, d2, d3, d4] }
  | _ => none }
def aeadSizesRow : OpenClaim := { program := "ytppikhhapaejjaadoor", sum := "4aefb46618a063f6ffcffa68c35444deecc72b4c723ee40a440eec88de06dfcf", func := "posthorn/posthornlaw06.AeadSizes", spec := "aeadSizes", inPlace := ["internal/abi.NoEscape", "internal/bytealg.MakeNoZero"], named := ["posthorn/chacha.places", "posthorn/poly.kept"], apart := false, laid := [("posthorn/chacha.places", laid_posthorn_chacha_places), ("posthorn/poly.kept", laid_posthorn_poly_kept)] }
def AeadSizesSaid : Prop := aeadSizesRow.holds Tryd.pinned (OpenSpec.ofChange aeadSizesSpec)

/-- ITS FALSE NEIGHBOUR: 'it returns false'. Refute it at one input. -/
def aeadSizesWrong : ChangeSpec := { name := "aeadSizes", fn := fun _ => fun
  | [d1, d2, d3, d4] => { results := [.lit (.bool false)], args := [d1, d2, d3, d4] }
  | _ => none }
def AeadSizesWrongFalsely : Prop := aeadSizesRow.holds Tryd.pinned (OpenSpec.ofChange aeadSizesWrong)

/- THE SECOND FORM. 'bulk': how many values and letters a reading holds, each counted each time it is reached (what is shared counts as often as it is met; a slice's spare places count too). A statement '..UptoSaid' is the law's where the arguments, and the package variables that the reading takes, are together of bulk at most 1048576: NARROWER than '..Said'. Prove '..Said' where nothing that the law and all that it calls make is longer than what came in: it says more and counts as full. Else prove '..UptoSaid'. A law counts once. -/
mutual
def uptoBulk {H : Type} : DataW H → Nat
  | .lit (.string bytes) => bytes.length + 1
  | .lit _ => 1
  | .nil => 1
  | .ptr d => uptoBulk d + 1
  | .slice elems spare => uptoBulkAll elems + uptoBulkAll spare + 1
  | .agg parts => uptoBulkAll parts + 1
  | .iface _ d => uptoBulk d + 1
  | .map entries => uptoBulkEntries entries + 1
  | .held _ => 1
def uptoBulkAll {H : Type} : List (DataW H) → Nat
  | [] => 0
  | d :: r => uptoBulk d + uptoBulkAll r
def uptoBulkEntries {H : Type} : List (Lit × DataW H) → Nat
  | [] => 0
  | x :: r => uptoBulkEntry x + uptoBulkEntries r
def uptoBulkEntry {H : Type} : Lit × DataW H → Nat
  | (.string bytes, d) => bytes.length + uptoBulk d + 1
  | (_, d) => uptoBulk d + 1
 end
def uptoSmall : (H : Type) → List (DataW H) → Bool := fun _ ds => decide (uptoBulkAll ds ≤ 1048576)
def OpenSpec.upto (s : _root_.Go.ChangeSpec) : _root_.Go.OpenSpec := { _root_.Go.OpenSpec.ofChange s with cond := some uptoSmall }

/-- 'posthornlaw06.AeadSeals', WHERE WHAT IT READS IS OF BULK AT MOST 1048576: true; the input reads as it did. -/
def aeadSealsUptoRow : OpenClaim := { program := "ytppikhhapaejjaadoor", sum := "4aefb46618a063f6ffcffa68c35444deecc72b4c723ee40a440eec88de06dfcf", func := "posthorn/posthornlaw06.AeadSeals", spec := "aeadSeals", inPlace := ["internal/abi.NoEscape", "internal/bytealg.MakeNoZero"], named := ["posthorn/chacha.places", "posthorn/poly.kept"], apart := false, laid := [("posthorn/chacha.places", laid_posthorn_chacha_places), ("posthorn/poly.kept", laid_posthorn_poly_kept)], narrowed := true }
def AeadSealsUptoSaid : Prop := aeadSealsUptoRow.holds Tryd.pinned (OpenSpec.upto aeadSealsSpec)

/-- 'posthornlaw06.AeadOpens', WHERE WHAT IT READS IS OF BULK AT MOST 1048576: true; the input reads as it did. -/
def aeadOpensUptoRow : OpenClaim := { program := "ytppikhhapaejjaadoor", sum := "4aefb46618a063f6ffcffa68c35444deecc72b4c723ee40a440eec88de06dfcf", func := "posthorn/posthornlaw06.AeadOpens", spec := "aeadOpens", inPlace := ["internal/abi.NoEscape", "internal/bytealg.MakeNoZero"], named := ["posthorn/chacha.places", "posthorn/poly.kept"], apart := false, laid := [("posthorn/chacha.places", laid_posthorn_chacha_places), ("posthorn/poly.kept", laid_posthorn_poly_kept)], narrowed := true }
def AeadOpensUptoSaid : Prop := aeadOpensUptoRow.holds Tryd.pinned (OpenSpec.upto aeadOpensSpec)

/-- 'posthornlaw06.AeadBack', WHERE WHAT IT READS IS OF BULK AT MOST 1048576: true; the input reads as it did. -/
def aeadBackUptoRow : OpenClaim := { program := "ytppikhhapaejjaadoor", sum := "4aefb46618a063f6ffcffa68c35444deecc72b4c723ee40a440eec88de06dfcf", func := "posthorn/posthornlaw06.AeadBack", spec := "aeadBack", inPlace := ["internal/abi.NoEscape", "internal/bytealg.MakeNoZero"], named := ["posthorn/chacha.places", "posthorn/poly.kept"], apart := false, laid := [("posthorn/chacha.places", laid_posthorn_chacha_places), ("posthorn/poly.kept", laid_posthorn_poly_kept)], narrowed := true }
def AeadBackUptoSaid : Prop := aeadBackUptoRow.holds Tryd.pinned (OpenSpec.upto aeadBackSpec)

/-- 'posthornlaw06.AeadTurned', WHERE WHAT IT READS IS OF BULK AT MOST 1048576: true; the input reads as it did. -/
def aeadTurnedUptoRow : OpenClaim := { program := "ytppikhhapaejjaadoor", sum := "4aefb46618a063f6ffcffa68c35444deecc72b4c723ee40a440eec88de06dfcf", func := "posthorn/posthornlaw06.AeadTurned", spec := "aeadTurned", inPlace := ["internal/abi.NoEscape", "internal/bytealg.MakeNoZero"], named := ["posthorn/chacha.places", "posthorn/poly.kept"], apart := false, laid := [("posthorn/chacha.places", laid_posthorn_chacha_places), ("posthorn/poly.kept", laid_posthorn_poly_kept)], narrowed := true }
def AeadTurnedUptoSaid : Prop := aeadTurnedUptoRow.holds Tryd.pinned (OpenSpec.upto aeadTurnedSpec)

/-- 'posthornlaw06.AeadCovers', WHERE WHAT IT READS IS OF BULK AT MOST 1048576: true; the input reads as it did. -/
def aeadCoversUptoRow : OpenClaim := { program := "ytppikhhapaejjaadoor", sum := "4aefb46618a063f6ffcffa68c35444deecc72b4c723ee40a440eec88de06dfcf", func := "posthorn/posthornlaw06.AeadCovers", spec := "aeadCovers", inPlace := ["internal/abi.NoEscape", "internal/bytealg.MakeNoZero"], named := ["posthorn/chacha.places", "posthorn/poly.kept"], apart := false, laid := [("posthorn/chacha.places", laid_posthorn_chacha_places), ("posthorn/poly.kept", laid_posthorn_poly_kept)], narrowed := true }
def AeadCoversUptoSaid : Prop := aeadCoversUptoRow.holds Tryd.pinned (OpenSpec.upto aeadCoversSpec)

/-- 'posthornlaw06.AeadSizes', WHERE WHAT IT READS IS OF BULK AT MOST 1048576: true; the input reads as it did. -/
def aeadSizesUptoRow : OpenClaim := { program := "ytppikhhapaejjaadoor", sum := "4aefb46618a063f6ffcffa68c35444deecc72b4c723ee40a440eec88de06dfcf", func := "posthorn/posthornlaw06.AeadSizes", spec := "aeadSizes", inPlace := ["internal/abi.NoEscape", "internal/bytealg.MakeNoZero"], named := ["posthorn/chacha.places", "posthorn/poly.kept"], apart := false, laid := [("posthorn/chacha.places", laid_posthorn_chacha_places), ("posthorn/poly.kept", laid_posthorn_poly_kept)], narrowed := true }
def AeadSizesUptoSaid : Prop := aeadSizesUptoRow.holds Tryd.pinned (OpenSpec.upto aeadSizesSpec)

end Rows
end Go.Proofs.YtppikhhapaejjaaDoor

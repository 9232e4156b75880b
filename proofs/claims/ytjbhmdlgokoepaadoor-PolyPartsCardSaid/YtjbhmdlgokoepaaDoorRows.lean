/-
  NARROWER THAN 'FOR EVERY INPUT', by the rows' own cells (each row's printed sentence says how): PolyTells: laid · PolyParts: laid · PolyClamps: laid · PolyAdds: laid · PolyOne: laid · PolySizes: laid.
  DERIVED. THE GIVEN ROWS OF THIS SEAT. 6 by the template 'for every input the law returns true; each argument reads behind the call as it read before'; 0 by the template 'total and deterministic' (their statements: YtjbhmdlgokoepaaDoorTotals.lean).
  GIVEN WITH THE SEED: the statements are not yours to turn. If you find one false, say at which input.
  Laid BY PROGRAM, IN A SANDBOX (cutbox-rows.mjs): the forced cells as the released guide's own fill.sh prints them over the translation e5b821a728e584c7… (all of the seat's roots in one cut). By AI agents, Wed Nov 11 2026. No macro, syntax, notation, axiom, sorry.
-/
import Derived.Test.YtjbhmdlgokoepaaDoorChecked
import GoSem.Claim
import GoSem.ClaimJoined
import GoSem.ClaimMapViews
import Derived.JoinedTies
import Derived.KernelRfl
namespace Go.Proofs.YtjbhmdlgokoepaaDoor
/- THE CELL 'sum', in the pinned program and in every row, IS THE sha256 OF THE DUMP (.gsa) THAT YtjbhmdlgokoepaaDoorProg.lean LOADS. Nothing in Lean hashes anything: it is a label: what it is worth is what the hold of that sum in a sandbox is worth. -/
noncomputable def Tryd.pinned : Pinned := { name := "ytjbhmdlgokoepaadoor", sum := "e5b821a728e584c785df9c86243339ac8ecb2b8c67f73aa34ffba975c9c6effd", checked := Tryd.checked }
namespace Rows
def none {H : Type} : Left H := { results := [], args := [] }

/- WHAT THE LISTED PACKAGE-LEVEL VARIABLES READ AS WHEN THE CALL BEGINS. Each datum BY PROGRAM (the guide's laid-datum.mjs) off the statement by which the dump's own 'gosem.cut.vars' lays the variable. In a bare row this is a premise. The card (YtjbhmdlgokoepaaDoorCards.lean) ties it to the program's text. -/
def laid_posthorn_poly_kept {H : Type} : DataW H := .agg [.lit (.int .u8 255), .lit (.int .u8 255), .lit (.int .u8 255), .lit (.int .u8 15), .lit (.int .u8 252), .lit (.int .u8 255), .lit (.int .u8 255), .lit (.int .u8 15), .lit (.int .u8 252), .lit (.int .u8 255), .lit (.int .u8 255), .lit (.int .u8 15), .lit (.int .u8 252), .lit (.int .u8 255), .lit (.int .u8 255), .lit (.int .u8 15)]

/-- 'posthornlaw05.PolyTells': WHATEVER THE INPUT: true; the input reads as it did. -/
def polyTellsSpec : ChangeSpec := { name := "polyTells", fn := fun _ => fun
  | [d1, d2, d3] => { results := [.lit (.bool true)], args := [d1, d2, d3] }
  | _ => none }
def polyTellsRow : OpenClaim := { program := "ytjbhmdlgokoepaadoor", sum := "e5b821a728e584c785df9c86243339ac8ecb2b8c67f73aa34ffba975c9c6effd", func := "posthorn/posthornlaw05.PolyTells", spec := "polyTells", inPlace := ["internal/abi.NoEscape", "internal/bytealg.MakeNoZero"], named := ["posthorn/poly.kept"], apart := false, laid := [("posthorn/poly.kept", laid_posthorn_poly_kept)] }
def PolyTellsSaid : Prop := polyTellsRow.holds Tryd.pinned (OpenSpec.ofChange polyTellsSpec)

/-- ITS FALSE NEIGHBOUR: 'it returns false'. Refute it at one input. -/
def polyTellsWrong : ChangeSpec := { name := "polyTells", fn := fun _ => fun
  | [d1, d2, d3] => { results := [.lit (.bool false)], args := [d1, d2, d3] }
  | _ => none }
def PolyTellsWrongFalsely : Prop := polyTellsRow.holds Tryd.pinned (OpenSpec.ofChange polyTellsWrong)

/-- 'posthornlaw05.PolyParts': WHATEVER THE INPUT: true; the input reads as it did. -/
def polyPartsSpec : ChangeSpec := { name := "polyParts", fn := fun _ => fun
  | [d1, d2] => { results := [.lit (.bool true)], args := [d1, d2] }
  | _ => none }
def polyPartsRow : OpenClaim := { program := "ytjbhmdlgokoepaadoor", sum := "e5b821a728e584c785df9c86243339ac8ecb2b8c67f73aa34ffba975c9c6effd", func := "posthorn/posthornlaw05.PolyParts", spec := "polyParts", inPlace := ["internal/abi.NoEscape", "internal/bytealg.MakeNoZero"], named := ["posthorn/poly.kept"], apart := false, laid := [("posthorn/poly.kept", laid_posthorn_poly_kept)] }
def PolyPartsSaid : Prop := polyPartsRow.holds Tryd.pinned (OpenSpec.ofChange polyPartsSpec)

/-- ITS FALSE NEIGHBOUR: 'it returns false'. Refute it at one input. -/
def polyPartsWrong : ChangeSpec := { name := "polyParts", fn := fun _ => fun
  | [d1, d2] => { results := [.lit (.bool false)], args := [d1, d2] }
  | _ => none }
def PolyPartsWrongFalsely : Prop := polyPartsRow.holds Tryd.pinned (OpenSpec.ofChange polyPartsWrong)

/-- 'posthornlaw05.PolyClamps': WHATEVER THE INPUT: true; the input reads as it did. -/
def polyClampsSpec : ChangeSpec := { name := "polyClamps", fn := fun _ => fun
  | [d1, d2] => { results := [.lit (.bool true)], args := [d1, d2] }
  | _ => none }
def polyClampsRow : OpenClaim := { program := "ytjbhmdlgokoepaadoor", sum := "e5b821a728e584c785df9c86243339ac8ecb2b8c67f73aa34ffba975c9c6effd", func := "posthorn/posthornlaw05.PolyClamps", spec := "polyClamps", inPlace := ["internal/abi.NoEscape", "internal/bytealg.MakeNoZero"], named := ["posthorn/poly.kept"], apart := false, laid := [("posthorn/poly.kept", laid_posthorn_poly_kept)] }
def PolyClampsSaid : Prop := polyClampsRow.holds Tryd.pinned (OpenSpec.ofChange polyClampsSpec)

/-- ITS FALSE NEIGHBOUR: 'it returns false'. Refute it at one input. -/
def polyClampsWrong : ChangeSpec := { name := "polyClamps", fn := fun _ => fun
  | [d1, d2] => { results := [.lit (.bool false)], args := [d1, d2] }
  | _ => none }
def PolyClampsWrongFalsely : Prop := polyClampsRow.holds Tryd.pinned (OpenSpec.ofChange polyClampsWrong)

/-- 'posthornlaw05.PolyAdds': WHATEVER THE INPUT: true; the input reads as it did. -/
def polyAddsSpec : ChangeSpec := { name := "polyAdds", fn := fun _ => fun
  | [d1, d2, d3] => { results := [.lit (.bool true)], args := [d1, d2, d3] }
  | _ => none }
def polyAddsRow : OpenClaim := { program := "ytjbhmdlgokoepaadoor", sum := "e5b821a728e584c785df9c86243339ac8ecb2b8c67f73aa34ffba975c9c6effd", func := "posthorn/posthornlaw05.PolyAdds", spec := "polyAdds", inPlace := ["internal/abi.NoEscape", "internal/bytealg.MakeNoZero"], named := ["posthorn/poly.kept"], apart := false, laid := [("posthorn/poly.kept", laid_posthorn_poly_kept)] }
def PolyAddsSaid : Prop := polyAddsRow.holds Tryd.pinned (OpenSpec.ofChange polyAddsSpec)

/-- ITS FALSE NEIGHBOUR: 'it returns false'. Refute it at one input. -/
def polyAddsWrong : ChangeSpec := { name := "polyAdds", fn := fun _ => fun
  | [d1, d2, d3] => { results := [.lit (.bool false)], args := [d1, d2, d3] }
  | _ => none }
def PolyAddsWrongFalsely : Prop := polyAddsRow.holds Tryd.pinned (OpenSpec.ofChange polyAddsWrong)

/-- 'posthornlaw05.PolyOne': WHATEVER THE INPUT: true; the input reads as it did. -/
def polyOneSpec : ChangeSpec := { name := "polyOne", fn := fun _ => fun
  | [d1, d2] => { results := [.lit (.bool true)], args := [d1, d2] }
  | _ => none }
def polyOneRow : OpenClaim := { program := "ytjbhmdlgokoepaadoor", sum := "e5b821a728e584c785df9c86243339ac8ecb2b8c67f73aa34ffba975c9c6effd", func := "posthorn/posthornlaw05.PolyOne", spec := "polyOne", inPlace := ["internal/abi.NoEscape", "internal/bytealg.MakeNoZero"], named := ["posthorn/poly.kept"], apart := false, laid := [("posthorn/poly.kept", laid_posthorn_poly_kept)] }
def PolyOneSaid : Prop := polyOneRow.holds Tryd.pinned (OpenSpec.ofChange polyOneSpec)

/-- ITS FALSE NEIGHBOUR: 'it returns false'. Refute it at one input. -/
def polyOneWrong : ChangeSpec := { name := "polyOne", fn := fun _ => fun
  | [d1, d2] => { results := [.lit (.bool false)], args := [d1, d2] }
  | _ => none }
def PolyOneWrongFalsely : Prop := polyOneRow.holds Tryd.pinned (OpenSpec.ofChange polyOneWrong)

/-- 'posthornlaw05.PolySizes': WHATEVER THE INPUT: true; the input reads as it did. -/
def polySizesSpec : ChangeSpec := { name := "polySizes", fn := fun _ => fun
  | [d1, d2] => { results := [.lit (.bool true)], args := [d1, d2] }
  | _ => none }
def polySizesRow : OpenClaim := { program := "ytjbhmdlgokoepaadoor", sum := "e5b821a728e584c785df9c86243339ac8ecb2b8c67f73aa34ffba975c9c6effd", func := "posthorn/posthornlaw05.PolySizes", spec := "polySizes", inPlace := ["internal/abi.NoEscape", "internal/bytealg.MakeNoZero"], named := ["posthorn/poly.kept"], apart := false, laid := [("posthorn/poly.kept", laid_posthorn_poly_kept)] }
def PolySizesSaid : Prop := polySizesRow.holds Tryd.pinned (OpenSpec.ofChange polySizesSpec)

/-- ITS FALSE NEIGHBOUR: 'it returns false'. Refute it at one input. -/
def polySizesWrong : ChangeSpec := { name := "polySizes", fn := fun _ => fun
  | [d1, d2] => { results := [.lit (.bool false)], args := [d1, d2] }
  | _ => none }
def PolySizesWrongFalsely : Prop := polySizesRow.holds Tryd.pinned (OpenSpec.ofChange polySizesWrong)

/- THE SECOND FORM. 'bulk': how many values and letters a reading holds, each counted each time it is reached (what is shared counts as often as it is met; a slice's spare places count too). A statement '..UptoSaid' is the law's where the arguments, and the package variables that the reading takes, are together of bulk at most 1048576: NARROWER than '..Said'. Prove '..Said' where nothing that the law and all that it calls make is longer than what came in: it says more and counts as full. Else prove '..UptoSaid'. A law counts once. -/
mutual
def uptoBulk {H : Type} : DataW H → Nat
  | .lit (.string bytes) => bytes.length + 1
  | .lit _ => 1
  | .nil => 1
  | .ptr d => uptoBulk d + 1
  | .slice elems spare => uptoBulkAll elems + uptoBulkAll spare + 1
  | .agg parts => uptoBulkAll parts + 1
  | .iface _ d => uptoBulk d + 1
  | .map entries => uptoBulkEntries entries + 1
  | .held _ => 1
def uptoBulkAll {H : Type} : List (DataW H) → Nat
  | [] => 0
  | d :: r => uptoBulk d + uptoBulkAll r
def uptoBulkEntries {H : Type} : List (Lit × DataW H) → Nat
  | [] => 0
  | x :: r => uptoBulkEntry x + uptoBulkEntries r
def uptoBulkEntry {H : Type} : Lit × DataW H → Nat
  | (.string bytes, d) => bytes.length + uptoBulk d + 1
  | (_, d) => uptoBulk d + 1
 end
def uptoSmall : (H : Type) → List (DataW H) → Bool := fun _ ds => decide (uptoBulkAll ds ≤ 1048576)
def OpenSpec.upto (s : _root_.Go.ChangeSpec) : _root_.Go.OpenSpec := { _root_.Go.OpenSpec.ofChange s with cond := some uptoSmall }

/-- 'posthornlaw05.PolyTells', WHERE WHAT IT READS IS OF BULK AT MOST 1048576: true; the input reads as it did. -/
def polyTellsUptoRow : OpenClaim := { program := "ytjbhmdlgokoepaadoor", sum := "e5b821a728e584c785df9c86243339ac8ecb2b8c67f73aa34ffba975c9c6effd", func := "posthorn/posthornlaw05.PolyTells", spec := "polyTells", inPlace := ["internal/abi.NoEscape", "internal/bytealg.MakeNoZero"], named := ["posthorn/poly.kept"], apart := false, laid := [("posthorn/poly.kept", laid_posthorn_poly_kept)], narrowed := true }
def PolyTellsUptoSaid : Prop := polyTellsUptoRow.holds Tryd.pinned (OpenSpec.upto polyTellsSpec)

/-- 'posthornlaw05.PolyParts', WHERE WHAT IT READS IS OF BULK AT MOST 1048576: true; the input reads as it did. -/
def polyPartsUptoRow : OpenClaim := { program := "ytjbhmdlgokoepaadoor", sum := "e5b821a728e584c785df9c86243339ac8ecb2b8c67f73aa34ffba975c9c6effd", func := "posthorn/posthornlaw05.PolyParts", spec := "polyParts", inPlace := ["internal/abi.NoEscape", "internal/bytealg.MakeNoZero"], named := ["posthorn/poly.kept"], apart := false, laid := [("posthorn/poly.kept", laid_posthorn_poly_kept)], narrowed := true }
def PolyPartsUptoSaid : Prop := polyPartsUptoRow.holds Tryd.pinned (OpenSpec.upto polyPartsSpec)

/-- 'posthornlaw05.PolyClamps', WHERE WHAT IT READS IS OF BULK AT MOST 1048576: true; the input reads as it did. -/
def polyClampsUptoRow : OpenClaim := { program := "ytjbhmdlgokoepaadoor", sum := "e5b821a728e584c785df9c86243339ac8ecb2b8c67f73aa34ffba975c9c6effd", func := "posthorn/posthornlaw05.PolyClamps", spec := "polyClamps", inPlace := ["internal/abi.NoEscape", "internal/bytealg.MakeNoZero"], named := ["posthorn/poly.kept"], apart := false, laid := [("posthorn/poly.kept", laid_posthorn_poly_kept)], narrowed := true }
def PolyClampsUptoSaid : Prop := polyClampsUptoRow.holds Tryd.pinned (OpenSpec.upto polyClampsSpec)

/-- 'posthornlaw05.PolyAdds', WHERE WHAT IT READS IS OF BULK AT MOST 1048576: true; the input reads as it did. -/
def polyAddsUptoRow : OpenClaim := { program := "ytjbhmdlgokoepaadoor", sum := "e5b821a728e584c785df9c86243339ac8ecb2b8c67f73aa34ffba975c9c6effd", func := "posthorn/posthornlaw05.PolyAdds", spec := "polyAdds", inPlace := ["internal/abi.NoEscape", "internal/bytealg.MakeNoZero"], named := ["posthorn/poly.kept"], apart := false, laid := [("posthorn/poly.kept", laid_posthorn_poly_kept)], narrowed := true }
def PolyAddsUptoSaid : Prop := polyAddsUptoRow.holds Tryd.pinned (OpenSpec.upto polyAddsSpec)

/-- 'posthornlaw05.PolyOne', WHERE WHAT IT READS IS OF BULK AT MOST 1048576: true; the input reads as it did. -/
def polyOneUptoRow : OpenClaim := { program := "ytjbhmdlgokoepaadoor", sum := "e5b821a728e584c785df9c86243339ac8ecb2b8c67f73aa34ffba975c9c6effd", func := "posthorn/posthornlaw05.PolyOne", spec := "polyOne", inPlace := ["internal/abi.NoEscape", "internal/bytealg.MakeNoZero"], named := ["posthorn/poly.kept"], apart := false, laid := [("posthorn/poly.kept", laid_posthorn_poly_kept)], narrowed := true }
def PolyOneUptoSaid : Prop := polyOneUptoRow.holds Tryd.pinned (OpenSpec.upto polyOneSpec)

/-- 'posthornlaw05.PolySizes', WHERE WHAT IT READS IS OF BULK AT MOST 1048576: true; the input reads as it did. -/
def polySizesUptoRow : OpenClaim := { program := "ytjbhmdlgokoepaadoor", sum := "e5b821a728e584c785df9c86243339ac8ecb2b8c67f73aa34ffba975c9c6effd", func := "posthorn/posthornlaw05.PolySizes", spec := "polySizes", inPlace := ["internal/abi.NoEscape", "internal/bytealg.MakeNoZero"], named := ["posthorn/poly.kept"], apart := false, laid := [("posthorn/poly.kept", laid_posthorn_poly_kept)], narrowed := true }
def PolySizesUptoSaid : Prop := polySizesUptoRow.holds Tryd.pinned (OpenSpec.upto polySizesSpec)

end Rows
end Go.Proofs.YtjbhmdlgokoepaaDoor

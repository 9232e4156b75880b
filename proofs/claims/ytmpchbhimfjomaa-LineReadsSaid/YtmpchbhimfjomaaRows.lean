/-
  No cell of these rows narrows 'for every input' (looked for: loops, veiled, ifaces, maps, wideKeys, modest, calm, conditions, laid).
  DERIVED. THE GIVEN ROWS OF THIS SEAT. 6 by the template 'for every input the law returns true; each argument reads behind the call as it read before'; 0 by the template 'total and deterministic' (their statements: YtmpchbhimfjomaaTotals.lean).
  GIVEN WITH THE SEED: the statements are not yours to turn. If you find one false, say at which input.
  Laid BY PROGRAM, IN A SANDBOX (cutbox-rows.mjs): the forced cells as the released guide's own fill.sh prints them over the translation 05a8490f3c5418a2… (all of the seat's roots in one cut). By AI agents, Wed Nov 11 2026. No macro, syntax, notation, axiom, sorry.
-/
import Derived.Test.YtmpchbhimfjomaaChecked
import GoSem.Claim
import GoSem.ClaimJoined
import GoSem.ClaimMapViews
import Derived.JoinedTies
import Derived.KernelRfl
namespace Go.Proofs.Ytmpchbhimfjomaa
/- THE CELL 'sum', in the pinned program and in every row, IS THE sha256 OF THE DUMP (.gsa) THAT YtmpchbhimfjomaaProg.lean LOADS. Nothing in Lean hashes anything: it is a label: what it is worth is what the hold of that sum in a sandbox is worth. -/
noncomputable def Try.pinned : Pinned := { name := "ytmpchbhimfjomaa", sum := "05a8490f3c5418a2e3f45c3320af0822564445bd0ae94694ec86529e6aa3aee6", checked := Try.checked }
namespace Rows
def none {H : Type} : Left H := { results := [], args := [] }

/-- 'posthornlaw08.LineTells': WHATEVER THE INPUT: true; the input reads as it did. -/
def lineTellsSpec : ChangeSpec := { name := "lineTells", fn := fun _ => fun
  | [d1, d2] => { results := [.lit (.bool true)], args := [d1, d2] }
  | _ => none }
def lineTellsRow : OpenClaim := { program := "ytmpchbhimfjomaa", sum := "05a8490f3c5418a2e3f45c3320af0822564445bd0ae94694ec86529e6aa3aee6", func := "posthorn/posthornlaw08.LineTells", spec := "lineTells", inPlace := ["internal/abi.NoEscape"], apart := false }
def LineTellsSaid : Prop := lineTellsRow.holds Try.pinned (OpenSpec.ofChange lineTellsSpec)

/-- ITS FALSE NEIGHBOUR: 'it returns false'. Refute it at one input. -/
def lineTellsWrong : ChangeSpec := { name := "lineTells", fn := fun _ => fun
  | [d1, d2] => { results := [.lit (.bool false)], args := [d1, d2] }
  | _ => none }
def LineTellsWrongFalsely : Prop := lineTellsRow.holds Try.pinned (OpenSpec.ofChange lineTellsWrong)

/-- 'posthornlaw08.LineReads': WHATEVER THE INPUT: true; the input reads as it did. -/
def lineReadsSpec : ChangeSpec := { name := "lineReads", fn := fun _ => fun
  | [d1, d2, d3] => { results := [.lit (.bool true)], args := [d1, d2, d3] }
  | _ => none }
def lineReadsRow : OpenClaim := { program := "ytmpchbhimfjomaa", sum := "05a8490f3c5418a2e3f45c3320af0822564445bd0ae94694ec86529e6aa3aee6", func := "posthorn/posthornlaw08.LineReads", spec := "lineReads", inPlace := ["internal/abi.NoEscape"], apart := false }
def LineReadsSaid : Prop := lineReadsRow.holds Try.pinned (OpenSpec.ofChange lineReadsSpec)

/-- ITS FALSE NEIGHBOUR: 'it returns false'. Refute it at one input. -/
def lineReadsWrong : ChangeSpec := { name := "lineReads", fn := fun _ => fun
  | [d1, d2, d3] => { results := [.lit (.bool false)], args := [d1, d2, d3] }
  | _ => none }
def LineReadsWrongFalsely : Prop := lineReadsRow.holds Try.pinned (OpenSpec.ofChange lineReadsWrong)

/-- 'posthornlaw08.LinePieces': WHATEVER THE INPUT: true; the input reads as it did. -/
def linePiecesSpec : ChangeSpec := { name := "linePieces", fn := fun _ => fun
  | [d1, d2] => { results := [.lit (.bool true)], args := [d1, d2] }
  | _ => none }
def linePiecesRow : OpenClaim := { program := "ytmpchbhimfjomaa", sum := "05a8490f3c5418a2e3f45c3320af0822564445bd0ae94694ec86529e6aa3aee6", func := "posthorn/posthornlaw08.LinePieces", spec := "linePieces", inPlace := ["internal/abi.NoEscape"], apart := false }
def LinePiecesSaid : Prop := linePiecesRow.holds Try.pinned (OpenSpec.ofChange linePiecesSpec)

/-- ITS FALSE NEIGHBOUR: 'it returns false'. Refute it at one input. -/
def linePiecesWrong : ChangeSpec := { name := "linePieces", fn := fun _ => fun
  | [d1, d2] => { results := [.lit (.bool false)], args := [d1, d2] }
  | _ => none }
def LinePiecesWrongFalsely : Prop := linePiecesRow.holds Try.pinned (OpenSpec.ofChange linePiecesWrong)

/-- 'posthornlaw08.LineBack': WHATEVER THE INPUT: true; the input reads as it did. -/
def lineBackSpec : ChangeSpec := { name := "lineBack", fn := fun _ => fun
  | [d1, d2, d3] => { results := [.lit (.bool true)], args := [d1, d2, d3] }
  | _ => none }
def lineBackRow : OpenClaim := { program := "ytmpchbhimfjomaa", sum := "05a8490f3c5418a2e3f45c3320af0822564445bd0ae94694ec86529e6aa3aee6", func := "posthorn/posthornlaw08.LineBack", spec := "lineBack", inPlace := ["internal/abi.NoEscape"], apart := false }
def LineBackSaid : Prop := lineBackRow.holds Try.pinned (OpenSpec.ofChange lineBackSpec)

/-- ITS FALSE NEIGHBOUR: 'it returns false'. Refute it at one input. -/
def lineBackWrong : ChangeSpec := { name := "lineBack", fn := fun _ => fun
  | [d1, d2, d3] => { results := [.lit (.bool false)], args := [d1, d2, d3] }
  | _ => none }
def LineBackWrongFalsely : Prop := lineBackRow.holds Try.pinned (OpenSpec.ofChange lineBackWrong)

/-- 'posthornlaw08.LineStuffed': WHATEVER THE INPUT: true; the input reads as it did. -/
def lineStuffedSpec : ChangeSpec := { name := "lineStuffed", fn := fun _ => fun
  | [d1, d2] => { results := [.lit (.bool true)], args := [d1, d2] }
  | _ => none }
def lineStuffedRow : OpenClaim := { program := "ytmpchbhimfjomaa", sum := "05a8490f3c5418a2e3f45c3320af0822564445bd0ae94694ec86529e6aa3aee6", func := "posthorn/posthornlaw08.LineStuffed", spec := "lineStuffed", inPlace := ["internal/abi.NoEscape"], apart := false }
def LineStuffedSaid : Prop := lineStuffedRow.holds Try.pinned (OpenSpec.ofChange lineStuffedSpec)

/-- ITS FALSE NEIGHBOUR: 'it returns false'. Refute it at one input. -/
def lineStuffedWrong : ChangeSpec := { name := "lineStuffed", fn := fun _ => fun
  | [d1, d2] => { results := [.lit (.bool false)], args := [d1, d2] }
  | _ => none }
def LineStuffedWrongFalsely : Prop := lineStuffedRow.holds Try.pinned (OpenSpec.ofChange lineStuffedWrong)

/-- 'posthornlaw08.LineDots': WHATEVER THE INPUT: true; the input reads as it did. -/
def lineDotsSpec : ChangeSpec := { name := "lineDots", fn := fun _ => fun
  | [d] => { results := [.lit (.bool true)], args := [d] }
  | _ => none }
def lineDotsRow : OpenClaim := { program := "ytmpchbhimfjomaa", sum := "05a8490f3c5418a2e3f45c3320af0822564445bd0ae94694ec86529e6aa3aee6", func := "posthorn/posthornlaw08.LineDots", spec := "lineDots", inPlace := ["internal/abi.NoEscape"], apart := false }
def LineDotsSaid : Prop := lineDotsRow.holds Try.pinned (OpenSpec.ofChange lineDotsSpec)

/-- ITS FALSE NEIGHBOUR: 'it returns false'. Refute it at one input. -/
def lineDotsWrong : ChangeSpec := { name := "lineDots", fn := fun _ => fun
  | [d] => { results := [.lit (.bool false)], args := [d] }
  | _ => none }
def LineDotsWrongFalsely : Prop := lineDotsRow.holds Try.pinned (OpenSpec.ofChange lineDotsWrong)

/- THE SECOND FORM. 'bulk': how many values and letters a reading holds, each counted each time it is reached (what is shared counts as often as it is met; a slice's spare places count too). A statement '..UptoSaid' is the law's where the arguments, and the package variables that the reading takes, are together of bulk at most 1048576: NARROWER than '..Said'. Prove '..Said' where nothing that the law and all that it calls make is longer than what came in: it says more and counts as full. Else prove '..UptoSaid'. A law counts once. -/
mutual
def uptoBulk {H : Type} : DataW H → Nat
  | .lit (.string bytes) => bytes.length + 1
  | .lit _ => 1
  | .nil => 1
  | .ptr d => uptoBulk d + 1
  | .slice elems spare => uptoBulkAll elems + uptoBulkAll spare + 1
  | .agg parts => uptoBulkAll parts + 1
  | .iface _ d => uptoBulk d + 1
  | .map entries => uptoBulkEntries entries + 1
  | .held _ => 1
def uptoBulkAll {H : Type} : List (DataW H) → Nat
  | [] => 0
  | d :: r => uptoBulk d + uptoBulkAll r
def uptoBulkEntries {H : Type} : List (Lit × DataW H) → Nat
  | [] => 0
  | x :: r => uptoBulkEntry x + uptoBulkEntries r
def uptoBulkEntry {H : Type} : Lit × DataW H → Nat
  | (.string bytes, d) => bytes.length + uptoBulk d + 1
  | (_, d) => uptoBulk d + 1
 end
def uptoSmall : (H : Type) → List (DataW H) → Bool := fun _ ds => decide (uptoBulkAll ds ≤ 1048576)
def OpenSpec.upto (s : _root_.Go.ChangeSpec) : _root_.Go.OpenSpec := { _root_.Go.OpenSpec.ofChange s with cond := some uptoSmall }

/-- 'posthornlaw08.LineTells', WHERE WHAT IT READS IS OF BULK AT MOST 1048576: true; the input reads as it did. -/
def lineTellsUptoRow : OpenClaim := { program := "ytmpchbhimfjomaa", sum := "05a8490f3c5418a2e3f45c3320af0822564445bd0ae94694ec86529e6aa3aee6", func := "posthorn/posthornlaw08.LineTells", spec := "lineTells", inPlace := ["internal/abi.NoEscape"], apart := false, narrowed := true }
def LineTellsUptoSaid : Prop := lineTellsUptoRow.holds Try.pinned (OpenSpec.upto lineTellsSpec)

/-- 'posthornlaw08.LineReads', WHERE WHAT IT READS IS OF BULK AT MOST 1048576: true; the input reads as it did. -/
def lineReadsUptoRow : OpenClaim := { program := "ytmpchbhimfjomaa", sum := "05a8490f3c5418a2e3f45c3320af0822564445bd0ae94694ec86529e6aa3aee6", func := "posthorn/posthornlaw08.LineReads", spec := "lineReads", inPlace := ["internal/abi.NoEscape"], apart := false, narrowed := true }
def LineReadsUptoSaid : Prop := lineReadsUptoRow.holds Try.pinned (OpenSpec.upto lineReadsSpec)

/-- 'posthornlaw08.LinePieces', WHERE WHAT IT READS IS OF BULK AT MOST 1048576: true; the input reads as it did. -/
def linePiecesUptoRow : OpenClaim := { program := "ytmpchbhimfjomaa", sum := "05a8490f3c5418a2e3f45c3320af0822564445bd0ae94694ec86529e6aa3aee6", func := "posthorn/posthornlaw08.LinePieces", spec := "linePieces", inPlace := ["internal/abi.NoEscape"], apart := false, narrowed := true }
def LinePiecesUptoSaid : Prop := linePiecesUptoRow.holds Try.pinned (OpenSpec.upto linePiecesSpec)

/-- 'posthornlaw08.LineBack', WHERE WHAT IT READS IS OF BULK AT MOST 1048576: true; the input reads as it did. -/
def lineBackUptoRow : OpenClaim := { program := "ytmpchbhimfjomaa", sum := "05a8490f3c5418a2e3f45c3320af0822564445bd0ae94694ec86529e6aa3aee6", func := "posthorn/posthornlaw08.LineBack", spec := "lineBack", inPlace := ["internal/abi.NoEscape"], apart := false, narrowed := true }
def LineBackUptoSaid : Prop := lineBackUptoRow.holds Try.pinned (OpenSpec.upto lineBackSpec)

/-- 'posthornlaw08.LineStuffed', WHERE WHAT IT READS IS OF BULK AT MOST 1048576: true; the input reads as it did. -/
def lineStuffedUptoRow : OpenClaim := { program := "ytmpchbhimfjomaa", sum := "05a8490f3c5418a2e3f45c3320af0822564445bd0ae94694ec86529e6aa3aee6", func := "posthorn/posthornlaw08.LineStuffed", spec := "lineStuffed", inPlace := ["internal/abi.NoEscape"], apart := false, narrowed := true }
def LineStuffedUptoSaid : Prop := lineStuffedUptoRow.holds Try.pinned (OpenSpec.upto lineStuffedSpec)

/-- 'posthornlaw08.LineDots', WHERE WHAT IT READS IS OF BULK AT MOST 1048576: true; the input reads as it did. -/
def lineDotsUptoRow : OpenClaim := { program := "ytmpchbhimfjomaa", sum := "05a8490f3c5418a2e3f45c3320af0822564445bd0ae94694ec86529e6aa3aee6", func := "posthorn/posthornlaw08.LineDots", spec := "lineDots", inPlace := ["internal/abi.NoEscape"], apart := false, narrowed := true }
def LineDotsUptoSaid : Prop := lineDotsUptoRow.holds Try.pinned (OpenSpec.upto lineDotsSpec)

end Rows
end Go.Proofs.Ytmpchbhimfjomaa

/-
  NARROWER THAN 'FOR EVERY INPUT', by the rows' own cells (each row's printed sentence says how): ChachaTells: laid · ChachaStreams: laid · ChachaBack: laid · ChachaRest: laid · ChachaStirs: laid · ChachaSizes: laid.
  DERIVED. THE GIVEN ROWS OF THIS SEAT. 6 by the template 'for every input the law returns true; each argument reads behind the call as it read before'; 0 by the template 'total and deterministic' (their statements: YtebhmcnocpblkaaDoorTotals.lean).
  GIVEN WITH THE SEED: the statements are not yours to turn. If you find one false, say at which input.
  Laid BY PROGRAM, IN A SANDBOX (cutbox-rows.mjs): the forced cells as the released guide's own fill.sh prints them over the translation 667adddf832717f1… (all of the seat's roots in one cut). By AI agents, Wed Nov 11 2026. No macro, syntax, notation, axiom, sorry.
-/
import Derived.Test.YtebhmcnocpblkaaDoorChecked
import GoSem.Claim
import GoSem.ClaimJoined
import GoSem.ClaimMapViews
import Derived.JoinedTies
import Derived.KernelRfl
namespace Go.Proofs.YtebhmcnocpblkaaDoor
/- THE CELL 'sum', in the pinned program and in every row, IS THE sha256 OF THE DUMP (.gsa) THAT YtebhmcnocpblkaaDoorProg.lean LOADS. Nothing in Lean hashes anything: it is a label: what it is worth is what the hold of that sum in a sandbox is worth. -/
noncomputable def Tryd.pinned : Pinned := { name := "ytebhmcnocpblkaadoor", sum := "667adddf832717f1bc83ccd2fcb70f8de16cfae699c8638feda9a0628b3ad6f5", checked := Tryd.checked }
namespace Rows
def none {H : Type} : Left H := { results := [], args := [] }

/- WHAT THE LISTED PACKAGE-LEVEL VARIABLES READ AS WHEN THE CALL BEGINS. Each datum BY PROGRAM (the guide's laid-datum.mjs) off the statement by which the dump's own 'gosem.cut.vars' lays the variable. In a bare row this is a premise. The card (YtebhmcnocpblkaaDoorCards.lean) ties it to the program's text. -/
def laid_posthorn_chacha_places {H : Type} : DataW H := .agg [.agg [.lit (.int .i64 0), .lit (.int .i64 4), .lit (.int .i64 8), .lit (.int .i64 12)], .agg [.lit (.int .i64 1), .lit (.int .i64 5), .lit (.int .i64 9), .lit (.int .i64 13)], .agg [.lit (.int .i64 2), .lit (.int .i64 6), .lit (.int .i64 10), .lit (.int .i64 14)], .agg [.lit (.int .i64 3), .lit (.int .i64 7), .lit (.int .i64 11), .lit (.int .i64 15)], .agg [.lit (.int .i64 0), .lit (.int .i64 5), .lit (.int .i64 10), .lit (.int .i64 15)], .agg [.lit (.int .i64 1), .lit (.int .i64 6), .lit (.int .i64 11), .lit (.int .i64 12)], .agg [.lit (.int .i64 2), .lit (.int .i64 7), .lit (.int .i64 8), .lit (.int .i64 13)], .agg [.lit (.int .i64 3), .lit (.int .i64 4), .lit (.int .i64 9), .lit (.int .i64 14)]]

/-- 'posthornlaw04.ChachaTells': WHATEVER THE INPUT: true; the input reads as it did. -/
def chachaTellsSpec : ChangeSpec := { name := "chachaTells", fn := fun _ => fun
  | [d1, d2, d3, d4] => { results := [.lit (.bool true)], args := [d1, d2, d3, d4] }
  | _ => none }
def chachaTellsRow : OpenClaim := { program := "ytebhmcnocpblkaadoor", sum := "667adddf832717f1bc83ccd2fcb70f8de16cfae699c8638feda9a0628b3ad6f5", func := "posthorn/posthornlaw04.ChachaTells", spec := "chachaTells", inPlace := ["internal/abi.NoEscape"], named := ["posthorn/chacha.places"], apart := false, laid := [("posthorn/chacha.places", laid_posthorn_chacha_places)] }
def ChachaTellsSaid : Prop := chachaTellsRow.holds Tryd.pinned (OpenSpec.ofChange chachaTellsSpec)

/-- ITS FALSE NEIGHBOUR: 'it returns false'. Refute it at one input. -/
def chachaTellsWrong : ChangeSpec := { name := "chachaTells", fn := fun _ => fun
  | [d1, d2, d3, d4] => { results := [.lit (.bool false)], args := [d1, d2, d3, d4] }
  | _ => none }
def ChachaTellsWrongFalsely : Prop := chachaTellsRow.holds Tryd.pinned (OpenSpec.ofChange chachaTellsWrong)

/-- 'posthornlaw04.ChachaStreams': WHATEVER THE INPUT: true; the input reads as it did. -/
def chachaStreamsSpec : ChangeSpec := { name := "chachaStreams", fn := fun _ => fun
  | [d1, d2, d3, d4, d5] => { results := [.lit (.bool true)], args := [d1, d2, d3, d4, d5] }
  | _ => none }
def chachaStreamsRow : OpenClaim := { program := "ytebhmcnocpblkaadoor", sum := "667adddf832717f1bc83ccd2fcb70f8de16cfae699c8638feda9a0628b3ad6f5", func := "posthorn/posthornlaw04.ChachaStreams", spec := "chachaStreams", inPlace := ["internal/abi.NoEscape"], named := ["posthorn/chacha.places"], apart := false, laid := [("posthorn/chacha.places", laid_posthorn_chacha_places)] }
def ChachaStreamsSaid : Prop := chachaStreamsRow.holds Tryd.pinned (OpenSpec.ofChange chachaStreamsSpec)

/-- ITS FALSE NEIGHBOUR: 'it returns false'. Refute it at one input. -/
def chachaStreamsWrong : ChangeSpec := { name := "chachaStreams", fn := fun _ => fun
  | [d1, d2, d3, d4, d5] => { results := [.lit (.bool false)], args := [d1, d2, d3, d4, d5] }
  | _ => none }
def ChachaStreamsWrongFalsely : Prop := chachaStreamsRow.holds Tryd.pinned (OpenSpec.ofChange chachaStreamsWrong)

/-- 'posthornlaw04.ChachaBack': WHATEVER THE INPUT: true; the input reads as it did. -/
def chachaBackSpec : ChangeSpec := { name := "chachaBack", fn := fun _ => fun
  | [d1, d2, d3, d4] => { results := [.lit (.bool true)], args := [d1, d2, d3, d4] }
  | _ => none }
def chachaBackRow : OpenClaim := { program := "ytebhmcnocpblkaadoor", sum := "667adddf832717f1bc83ccd2fcb70f8de16cfae699c8638feda9a0628b3ad6f5", func := "posthorn/posthornlaw04.ChachaBack", spec := "chachaBack", inPlace := ["internal/abi.NoEscape"], named := ["posthorn/chacha.places"], apart := false, laid := [("posthorn/chacha.places", laid_posthorn_chacha_places)] }
def ChachaBackSaid : Prop := chachaBackRow.holds Tryd.pinned (OpenSpec.ofChange chachaBackSpec)

/-- ITS FALSE NEIGHBOUR: 'it returns false'. Refute it at one input. -/
def chachaBackWrong : ChangeSpec := { name := "chachaBack", fn := fun _ => fun
  | [d1, d2, d3, d4] => { results := [.lit (.bool false)], args := [d1, d2, d3, d4] }
  | _ => none }
def ChachaBackWrongFalsely : Prop := chachaBackRow.holds Tryd.pinned (OpenSpec.ofChange chachaBackWrong)

/-- 'posthornlaw04.ChachaRest': WHATEVER THE INPUT: true; the input reads as it did. -/
def chachaRestSpec : ChangeSpec := { name := "chachaRest", fn := fun _ => fun
  | [d1, d2, d3, d4, d5] => { results := [.lit (.bool true)], args := [d1, d2, d3, d4, d5] }
  | _ => none }
def chachaRestRow : OpenClaim := { program := "ytebhmcnocpblkaadoor", sum := "667adddf832717f1bc83ccd2fcb70f8de16cfae699c8638feda9a0628b3ad6f5", func := "posthorn/posthornlaw04.ChachaRest", spec := "chachaRest", inPlace := ["internal/abi.NoEscape"], named := ["posthorn/chacha.places"], apart := false, laid := [("posthorn/chacha.places", laid_posthorn_chacha_places)] }
def ChachaRestSaid : Prop := chachaRestRow.holds Tryd.pinned (OpenSpec.ofChange chachaRestSpec)

/-- ITS FALSE NEIGHBOUR: 'it returns false'. Refute it at one input. -/
def chachaRestWrong : ChangeSpec := { name := "chachaRest", fn := fun _ => fun
  | [d1, d2, d3, d4, d5] => { results := [.lit (.bool false)], args := [d1, d2, d3, d4, d5] }
  | _ => none }
def ChachaRestWrongFalsely : Prop := chachaRestRow.holds Tryd.pinned (OpenSpec.ofChange chachaRestWrong)

/-- 'posthornlaw04.ChachaStirs': WHATEVER THE INPUT: true; the input reads as it did. -/
def chachaStirsSpec : ChangeSpec := { name := "chachaStirs", fn := fun _ => fun
  | [d] => { results := [.lit (.bool true)], args := [d] }
  | _ => none }
def chachaStirsRow : OpenClaim := { program := "ytebhmcnocpblkaadoor", sum := "667adddf832717f1bc83ccd2fcb70f8de16cfae699c8638feda9a0628b3ad6f5", func := "posthorn/posthornlaw04.ChachaStirs", spec := "chachaStirs", inPlace := ["internal/abi.NoEscape"], unfollowed := true, recurses := true, named := ["posthorn/chacha.places"], apart := false, laid := [("posthorn/chacha.places", laid_posthorn_chacha_places)] }
def ChachaStirsSaid : Prop := chachaStirsRow.holds Tryd.pinned (OpenSpec.ofChange chachaStirsSpec)

/-- ITS FALSE NEIGHBOUR: 'it returns false'. Refute it at one input. -/
def chachaStirsWrong : ChangeSpec := { name := "chachaStirs", fn := fun _ => fun
  | [d] => { results := [.lit (.bool false)], args := [d] }
  | _ => none }
def ChachaStirsWrongFalsely : Prop := chachaStirsRow.holds Tryd.pinned (OpenSpec.ofChange chachaStirsWrong)

/-- 'posthornlaw04.ChachaSizes': WHATEVER THE INPUT: true; the input reads as it did. -/
def chachaSizesSpec : ChangeSpec := { name := "chachaSizes", fn := fun _ => fun
  | [d1, d2, d3, d4] => { results := [.lit (.bool true)], args := [d1, d2, d3, d4] }
  | _ => none }
def chachaSizesRow : OpenClaim := { program := "ytebhmcnocpblkaadoor", sum := "667adddf832717f1bc83ccd2fcb70f8de16cfae699c8638feda9a0628b3ad6f5", func := "posthorn/posthornlaw04.ChachaSizes", spec := "chachaSizes", inPlace := ["internal/abi.NoEscape"], named := ["posthorn/chacha.places"], apart := false, laid := [("posthorn/chacha.places", laid_posthorn_chacha_places)] }
def ChachaSizesSaid : Prop := chachaSizesRow.holds Tryd.pinned (OpenSpec.ofChange chachaSizesSpec)

/-- ITS FALSE NEIGHBOUR: 'it returns false'. Refute it at one input. -/
def chachaSizesWrong : ChangeSpec := { name := "chachaSizes", fn := fun _ => fun
  | [d1, d2, d3, d4] => { results := [.lit (.bool false)], args := [d1, d2, d3, d4] }
  | _ => none }
def ChachaSizesWrongFalsely : Prop := chachaSizesRow.holds Tryd.pinned (OpenSpec.ofChange chachaSizesWrong)

/- THE SECOND FORM. 'bulk': how many values and letters a reading holds, each counted each time it is reached (what is shared counts as often as it is met; a slice's spare places count too). A statement '..UptoSaid' is the law's where the arguments, and the package variables that the reading takes, are together of bulk at most 1048576: NARROWER than '..Said'. Prove '..Said' where nothing that the law and all that it calls make is longer than what came in: it says more and counts as full. Else prove '..UptoSaid'. A law counts once. -/
mutual
def uptoBulk {H : Type} : DataW H → Nat
  | .lit (.string bytes) => bytes.length + 1
  | .lit _ => 1
  | .nil => 1
  | .ptr d => uptoBulk d + 1
  | .slice elems spare => uptoBulkAll elems + uptoBulkAll spare + 1
  | .agg parts => uptoBulkAll parts + 1
  | .iface _ d => uptoBulk d + 1
  | .map entries => uptoBulkEntries entries + 1
  | .held _ => 1
def uptoBulkAll {H : Type} : List (DataW H) → Nat
  | [] => 0
  | d :: r => uptoBulk d + uptoBulkAll r
def uptoBulkEntries {H : Type} : List (Lit × DataW H) → Nat
  | [] => 0
  | x :: r => uptoBulkEntry x + uptoBulkEntries r
def uptoBulkEntry {H : Type} : Lit × DataW H → Nat
  | (.string bytes, d) => bytes.length + uptoBulk d + 1
  | (_, d) => uptoBulk d + 1
 end
def uptoSmall : (H : Type) → List (DataW H) → Bool := fun _ ds => decide (uptoBulkAll ds ≤ 1048576)
def OpenSpec.upto (s : _root_.Go.ChangeSpec) : _root_.Go.OpenSpec := { _root_.Go.OpenSpec.ofChange s with cond := some uptoSmall }

/-- 'posthornlaw04.ChachaTells', WHERE WHAT IT READS IS OF BULK AT MOST 1048576: true; the input reads as it did. -/
def chachaTellsUptoRow : OpenClaim := { program := "ytebhmcnocpblkaadoor", sum := "667adddf832717f1bc83ccd2fcb70f8de16cfae699c8638feda9a0628b3ad6f5", func := "posthorn/posthornlaw04.ChachaTells", spec := "chachaTells", inPlace := ["internal/abi.NoEscape"], named := ["posthorn/chacha.places"], apart := false, laid := [("posthorn/chacha.places", laid_posthorn_chacha_places)], narrowed := true }
def ChachaTellsUptoSaid : Prop := chachaTellsUptoRow.holds Tryd.pinned (OpenSpec.upto chachaTellsSpec)

/-- 'posthornlaw04.ChachaStreams', WHERE WHAT IT READS IS OF BULK AT MOST 1048576: true; the input reads as it did. -/
def chachaStreamsUptoRow : OpenClaim := { program := "ytebhmcnocpblkaadoor", sum := "667adddf832717f1bc83ccd2fcb70f8de16cfae699c8638feda9a0628b3ad6f5", func := "posthorn/posthornlaw04.ChachaStreams", spec := "chachaStreams", inPlace := ["internal/abi.NoEscape"], named := ["posthorn/chacha.places"], apart := false, laid := [("posthorn/chacha.places", laid_posthorn_chacha_places)], narrowed := true }
def ChachaStreamsUptoSaid : Prop := chachaStreamsUptoRow.holds Tryd.pinned (OpenSpec.upto chachaStreamsSpec)

/-- 'posthornlaw04.ChachaBack', WHERE WHAT IT READS IS OF BULK AT MOST 1048576: true; the input reads as it did. -/
def chachaBackUptoRow : OpenClaim := { program := "ytebhmcnocpblkaadoor", sum := "667adddf832717f1bc83ccd2fcb70f8de16cfae699c8638feda9a0628b3ad6f5", func := "posthorn/posthornlaw04.ChachaBack", spec := "chachaBack", inPlace := ["internal/abi.NoEscape"], named := ["posthorn/chacha.places"], apart := false, laid := [("posthorn/chacha.places", laid_posthorn_chacha_places)], narrowed := true }
def ChachaBackUptoSaid : Prop := chachaBackUptoRow.holds Tryd.pinned (OpenSpec.upto chachaBackSpec)

/-- 'posthornlaw04.ChachaRest', WHERE WHAT IT READS IS OF BULK AT MOST 1048576: true; the input reads as it did. -/
def chachaRestUptoRow : OpenClaim := { program := "ytebhmcnocpblkaadoor", sum := "667adddf832717f1bc83ccd2fcb70f8de16cfae699c8638feda9a0628b3ad6f5", func := "posthorn/posthornlaw04.ChachaRest", spec := "chachaRest", inPlace := ["internal/abi.NoEscape"], named := ["posthorn/chacha.places"], apart := false, laid := [("posthorn/chacha.places", laid_posthorn_chacha_places)], narrowed := true }
def ChachaRestUptoSaid : Prop := chachaRestUptoRow.holds Tryd.pinned (OpenSpec.upto chachaRestSpec)

/-- 'posthornlaw04.ChachaStirs', WHERE WHAT IT READS IS OF BULK AT MOST 1048576: true; the input reads as it did. -/
def chachaStirsUptoRow : OpenClaim := { program := "ytebhmcnocpblkaadoor", sum := "667adddf832717f1bc83ccd2fcb70f8de16cfae699c8638feda9a0628b3ad6f5", func := "posthorn/posthornlaw04.ChachaStirs", spec := "chachaStirs", inPlace := ["internal/abi.NoEscape"], unfollowed := true, recurses := true, named := ["posthorn/chacha.places"], apart := false, laid := [("posthorn/chacha.places", laid_posthorn_chacha_places)], narrowed := true }
def ChachaStirsUptoSaid : Prop := chachaStirsUptoRow.holds Tryd.pinned (OpenSpec.upto chachaStirsSpec)

/-- 'posthornlaw04.ChachaSizes', WHERE WHAT IT READS IS OF BULK AT MOST 1048576: true; the input reads as it did. -/
def chachaSizesUptoRow : OpenClaim := { program := "ytebhmcnocpblkaadoor", sum := "667adddf832717f1bc83ccd2fcb70f8de16cfae699c8638feda9a0628b3ad6f5", func := "posthorn/posthornlaw04.ChachaSizes", spec := "chachaSizes", inPlace := ["internal/abi.NoEscape"], named := ["posthorn/chacha.places"], apart := false, laid := [("posthorn/chacha.places", laid_posthorn_chacha_places)], narrowed := true }
def ChachaSizesUptoSaid : Prop := chachaSizesUptoRow.holds Tryd.pinned (OpenSpec.upto chachaSizesSpec)

end Rows
end Go.Proofs.YtebhmcnocpblkaaDoor

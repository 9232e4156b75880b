/-
  NARROWER THAN 'FOR EVERY INPUT', by the rows' own cells (each row's printed sentence says how): BoxDoes: laid · BoxKeys: laid · BoxReal: laid.
  DERIVED. THE GIVEN ROWS OF THIS SEAT. 3 by the template 'for every input the law returns true; each argument reads behind the call as it read before'; 0 by the template 'total and deterministic' (their statements: YtfflpooiebeagaaGreatDoorTotals.lean).
  GIVEN WITH THE SEED: the statements are not yours to turn. If you find one false, say at which input.
  Laid BY PROGRAM, IN A SANDBOX (cutbox-rows.mjs): the forced cells as the released guide's own fill.sh prints them over the translation 10d507561c4cb69e… (all of the seat's roots in one cut). By AI agents, Wed Nov 11 2026. No macro, syntax, notation, axiom, sorry.
-/
import Derived.Test.YtfflpooiebeagaaGreatDoorChecked
import GoSem.Claim
import GoSem.ClaimJoined
import GoSem.ClaimMapViews
import Derived.JoinedTies
import Derived.KernelRfl
namespace Go.Proofs.YtfflpooiebeagaaGreatDoor
/- THE CELL 'sum', in the pinned program and in every row, IS THE sha256 OF THE DUMP (.gsa) THAT YtfflpooiebeagaaGreatDoorProg.lean LOADS. Nothing in Lean hashes anything: it is a label: what it is worth is what the hold of that sum in a sandbox is worth. -/
noncomputable def Tryz.pinned : Pinned := { name := "ytfflpooiebeagaagreatdoor", sum := "10d507561c4cb69e819d510d04066c633f351602c959baaca61f1d435f393f5b", checked := Tryz.checked }
namespace Rows
def none {H : Type} : Left H := { results := [], args := [] }

/- WHAT THE LISTED PACKAGE-LEVEL VARIABLES READ AS WHEN THE CALL BEGINS. Each datum BY PROGRAM (the guide's laid-datum.mjs) off the statement by which the dump's own 'gosem.cut.vars' lays the variable. In a bare row this is a premise. The card (YtfflpooiebeagaaGreatDoorCards.lean) ties it to the program's text. -/
def laid_posthorn_chacha_places {H : Type} : DataW H := .agg [.agg [.lit (.int .i64 0), .lit (.int .i64 4), .lit (.int .i64 8), .lit (.int .i64 12)], .agg [.lit (.int .i64 1), .lit (.int .i64 5), .lit (.int .i64 9), .lit (.int .i64 13)], .agg [.lit (.int .i64 2), .lit (.int .i64 6), .lit (.int .i64 10), .lit (.int .i64 14)], .agg [.lit (.int .i64 3), .lit (.int .i64 7), .lit (.int .i64 11), .lit (.int .i64 15)], .agg [.lit (.int .i64 0), .lit (.int .i64 5), .lit (.int .i64 10), .lit (.int .i64 15)], .agg [.lit (.int .i64 1), .lit (.int .i64 6), .lit (.int .i64 11), .lit (.int .i64 12)], .agg [.lit (.int .i64 2), .lit (.int .i64 7), .lit (.int .i64 8), .lit (.int .i64 13)], .agg [.lit (.int .i64 3), .lit (.int .i64 4), .lit (.int .i64 9), .lit (.int .i64 14)]]
def laid_posthorn_poly_kept {H : Type} : DataW H := .agg [.lit (.int .u8 255), .lit (.int .u8 255), .lit (.int .u8 255), .lit (.int .u8 15), .lit (.int .u8 252), .lit (.int .u8 255), .lit (.int .u8 255), .lit (.int .u8 15), .lit (.int .u8 252), .lit (.int .u8 255), .lit (.int .u8 255), .lit (.int .u8 15), .lit (.int .u8 252), .lit (.int .u8 255), .lit (.int .u8 255), .lit (.int .u8 15)]
def laid_posthorn_sha_table {H : Type} : DataW H := .agg [.lit (.int .u32 1116352408), .lit (.int .u32 1899447441), .lit (.int .u32 3049323471), .lit (.int .u32 3921009573), .lit (.int .u32 961987163), .lit (.int .u32 1508970993), .lit (.int .u32 2453635748), .lit (.int .u32 2870763221), .lit (.int .u32 3624381080), .lit (.int .u32 310598401), .lit (.int .u32 607225278), .lit (.int .u32 1426881987), .lit (.int .u32 1925078388), .lit (.int .u32 2162078206), .lit (.int .u32 2614888103), .lit (.int .u32 3248222580), .lit (.int .u32 3835390401), .lit (.int .u32 4022224774), .lit (.int .u32 264347078), .lit (.int .u32 604807628), .lit (.int .u32 770255983), .lit (.int .u32 1249150122), .lit (.int .u32 1555081692), .lit (.int .u32 1996064986), .lit (.int .u32 2554220882), .lit (.int .u32 2821834349), .lit (.int .u32 2952996808), .lit (.int .u32 3210313671), .lit (.int .u32 3336571891), .lit (.int .u32 3584528711), .lit (.int .u32 113926993), .lit (.int .u32 338241895), .lit (.int .u32 666307205), .lit (.int .u32 773529912), .lit (.int .u32 1294757372), .lit (.int .u32 1396182291), .lit (.int .u32 1695183700), .lit (.int .u32 1986661051), .lit (.int .u32 2177026350), .lit (.int .u32 2456956037), .lit (.int .u32 2730485921), .lit (.int .u32 2820302411), .lit (.int .u32 3259730800), .lit (.int .u32 3345764771), .lit (.int .u32 3516065817), .lit (.int .u32 3600352804), .lit (.int .u32 4094571909), .lit (.int .u32 275423344), .lit (.int .u32 430227734), .lit (.int .u32 506948616), .lit (.int .u32 659060556), .lit (.int .u32 883997877), .lit (.int .u32 958139571), .lit (.int .u32 1322822218), .lit (.int .u32 1537002063), .lit (.int .u32 1747873779), .lit (.int .u32 1955562222), .lit (.int .u32 2024104815), .lit (.int .u32 2227730452), .lit (.int .u32 2361852424), .lit (.int .u32 2428436474), .lit (.int .u32 2756734187), .lit (.int .u32 3204031479), .lit (.int .u32 3329325298)]

/-- 'posthornlaw07.BoxDoes': WHATEVER THE INPUT: true; the input reads as it did. -/
def boxDoesSpec : ChangeSpec := { name := "boxDoes", fn := fun _ => fun
  | [d1, d2, d3] => { results := [.lit (.bool true)], args := [d1, d2, d3] }
  | _ => none }
def boxDoesRow : OpenClaim := { program := "ytfflpooiebeagaagreatdoor", sum := "10d507561c4cb69e819d510d04066c633f351602c959baaca61f1d435f393f5b", func := "posthorn/posthornlaw07.BoxDoes", spec := "boxDoes", inPlace := ["internal/abi.NoEscape", "internal/bytealg.MakeNoZero"], unfollowed := true, recurses := true, named := ["posthorn/chacha.places", "posthorn/poly.kept", "posthorn/sha.table"], plainKeys := false, apart := false, laid := [("posthorn/chacha.places", laid_posthorn_chacha_places), ("posthorn/poly.kept", laid_posthorn_poly_kept), ("posthorn/sha.table", laid_posthorn_sha_table)] }
def BoxDoesSaid : Prop := boxDoesRow.holds Tryz.pinned (OpenSpec.ofChange boxDoesSpec)

/-- ITS FALSE NEIGHBOUR: 'it returns false'. Refute it at one input. -/
def boxDoesWrong : ChangeSpec := { name := "boxDoes", fn := fun _ => fun
  | [d1, d2, d3] => { results := [.lit (.bool false)], args := [d1, d2, d3] }
  | _ => none }
def BoxDoesWrongFalsely : Prop := boxDoesRow.holds Tryz.pinned (OpenSpec.ofChange boxDoesWrong)

/-- 'posthornlaw07.BoxKeys': WHATEVER THE INPUT: true; the input reads as it did. -/
def boxKeysSpec : ChangeSpec := { name := "boxKeys", fn := fun _ => fun
  | [d1, d2, d3] => { results := [.lit (.bool true)], args := [d1, d2, d3] }
  | _ => none }
def boxKeysRow : OpenClaim := { program := "ytfflpooiebeagaagreatdoor", sum := "10d507561c4cb69e819d510d04066c633f351602c959baaca61f1d435f393f5b", func := "posthorn/posthornlaw07.BoxKeys", spec := "boxKeys", inPlace := ["internal/abi.NoEscape", "internal/bytealg.MakeNoZero"], unfollowed := true, recurses := true, named := ["posthorn/chacha.places", "posthorn/poly.kept", "posthorn/sha.table"], plainKeys := false, apart := false, laid := [("posthorn/chacha.places", laid_posthorn_chacha_places), ("posthorn/poly.kept", laid_posthorn_poly_kept), ("posthorn/sha.table", laid_posthorn_sha_table)] }
def BoxKeysSaid : Prop := boxKeysRow.holds Tryz.pinned (OpenSpec.ofChange boxKeysSpec)

/-- ITS FALSE NEIGHBOUR: 'it returns false'. Refute it at one input. -/
def boxKeysWrong : ChangeSpec := { name := "boxKeys", fn := fun _ => fun
  | [d1, d2, d3] => { results := [.lit (.bool false)], args := [d1, d2, d3] }
  | _ => none }
def BoxKeysWrongFalsely : Prop := boxKeysRow.holds Tryz.pinned (OpenSpec.ofChange boxKeysWrong)

/-- 'posthornlaw07.BoxReal': WHATEVER THE INPUT: true; the input reads as it did. -/
def boxRealSpec : ChangeSpec := { name := "boxReal", fn := fun _ => fun
  | [d] => { results := [.lit (.bool true)], args := [d] }
  | _ => none }
def boxRealRow : OpenClaim := { program := "ytfflpooiebeagaagreatdoor", sum := "10d507561c4cb69e819d510d04066c633f351602c959baaca61f1d435f393f5b", func := "posthorn/posthornlaw07.BoxReal", spec := "boxReal", inPlace := ["internal/abi.NoEscape", "internal/bytealg.MakeNoZero"], unfollowed := true, recurses := true, named := ["posthorn/chacha.places", "posthorn/poly.kept", "posthorn/sha.table"], plainKeys := false, apart := false, laid := [("posthorn/chacha.places", laid_posthorn_chacha_places), ("posthorn/poly.kept", laid_posthorn_poly_kept), ("posthorn/sha.table", laid_posthorn_sha_table)] }
def BoxRealSaid : Prop := boxRealRow.holds Tryz.pinned (OpenSpec.ofChange boxRealSpec)

/-- ITS FALSE NEIGHBOUR: 'it returns false'. Refute it at one input. -/
def boxRealWrong : ChangeSpec := { name := "boxReal", fn := fun _ => fun
  | [d] => { results := [.lit (.bool false)], args := [d] }
  | _ => none }
def BoxRealWrongFalsely : Prop := boxRealRow.holds Tryz.pinned (OpenSpec.ofChange boxRealWrong)

/- THE SECOND FORM. 'bulk': how many values and letters a reading holds, each counted each time it is reached (what is shared counts as often as it is met; a slice's spare places count too). A statement '..UptoSaid' is the law's where the arguments, and the package variables that the reading takes, are together of bulk at most 1048576: NARROWER than '..Said'. Prove '..Said' where nothing that the law and all that it calls make is longer than what came in: it says more and counts as full. Else prove '..UptoSaid'. A law counts once. -/
mutual
def uptoBulk {H : Type} : DataW H → Nat
  | .lit (.string bytes) => bytes.length + 1
  | .lit _ => 1
  | .nil => 1
  | .ptr d => uptoBulk d + 1
  | .slice elems spare => uptoBulkAll elems + uptoBulkAll spare + 1
  | .agg parts => uptoBulkAll parts + 1
  | .iface _ d => uptoBulk d + 1
  | .map entries => uptoBulkEntries entries + 1
  | .held _ => 1
def uptoBulkAll {H : Type} : List (DataW H) → Nat
  | [] => 0
  | d :: r => uptoBulk d + uptoBulkAll r
def uptoBulkEntries {H : Type} : List (Lit × DataW H) → Nat
  | [] => 0
  | x :: r => uptoBulkEntry x + uptoBulkEntries r
def uptoBulkEntry {H : Type} : Lit × DataW H → Nat
  | (.string bytes, d) => bytes.length + uptoBulk d + 1
  | (_, d) => uptoBulk d + 1
 end
def uptoSmall : (H : Type) → List (DataW H) → Bool := fun _ ds => decide (uptoBulkAll ds ≤ 1048576)
def OpenSpec.upto (s : _root_.Go.ChangeSpec) : _root_.Go.OpenSpec := { _root_.Go.OpenSpec.ofChange s with cond := some uptoSmall }

/-- 'posthornlaw07.BoxDoes', WHERE WHAT IT READS IS OF BULK AT MOST 1048576: true; the input reads as it did. -/
def boxDoesUptoRow : OpenClaim := { program := "ytfflpooiebeagaagreatdoor", sum := "10d507561c4cb69e819d510d04066c633f351602c959baaca61f1d435f393f5b", func := "posthorn/posthornlaw07.BoxDoes", spec := "boxDoes", inPlace := ["internal/abi.NoEscape", "internal/bytealg.MakeNoZero"], unfollowed := true, recurses := true, named := ["posthorn/chacha.places", "posthorn/poly.kept", "posthorn/sha.table"], plainKeys := false, apart := false, laid := [("posthorn/chacha.places", laid_posthorn_chacha_places), ("posthorn/poly.kept", laid_posthorn_poly_kept), ("posthorn/sha.table", laid_posthorn_sha_table)], narrowed := true }
def BoxDoesUptoSaid : Prop := boxDoesUptoRow.holds Tryz.pinned (OpenSpec.upto boxDoesSpec)

/-- 'posthornlaw07.BoxKeys', WHERE WHAT IT READS IS OF BULK AT MOST 1048576: true; the input reads as it did. -/
def boxKeysUptoRow : OpenClaim := { program := "ytfflpooiebeagaagreatdoor", sum := "10d507561c4cb69e819d510d04066c633f351602c959baaca61f1d435f393f5b", func := "posthorn/posthornlaw07.BoxKeys", spec := "boxKeys", inPlace := ["internal/abi.NoEscape", "internal/bytealg.MakeNoZero"], unfollowed := true, recurses := true, named := ["posthorn/chacha.places", "posthorn/poly.kept", "posthorn/sha.table"], plainKeys := false, apart := false, laid := [("posthorn/chacha.places", laid_posthorn_chacha_places), ("posthorn/poly.kept", laid_posthorn_poly_kept), ("posthorn/sha.table", laid_posthorn_sha_table)], narrowed := true }
def BoxKeysUptoSaid : Prop := boxKeysUptoRow.holds Tryz.pinned (OpenSpec.upto boxKeysSpec)

/-- 'posthornlaw07.BoxReal', WHERE WHAT IT READS IS OF BULK AT MOST 1048576: true; the input reads as it did. -/
def boxRealUptoRow : OpenClaim := { program := "ytfflpooiebeagaagreatdoor", sum := "10d507561c4cb69e819d510d04066c633f351602c959baaca61f1d435f393f5b", func := "posthorn/posthornlaw07.BoxReal", spec := "boxReal", inPlace := ["internal/abi.NoEscape", "internal/bytealg.MakeNoZero"], unfollowed := true, recurses := true, named := ["posthorn/chacha.places", "posthorn/poly.kept", "posthorn/sha.table"], plainKeys := false, apart := false, laid := [("posthorn/chacha.places", laid_posthorn_chacha_places), ("posthorn/poly.kept", laid_posthorn_poly_kept), ("posthorn/sha.table", laid_posthorn_sha_table)], narrowed := true }
def BoxRealUptoSaid : Prop := boxRealUptoRow.holds Tryz.pinned (OpenSpec.upto boxRealSpec)

end Rows
end Go.Proofs.YtfflpooiebeagaaGreatDoor

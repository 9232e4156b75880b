/- PolyOne: the law's walk over the landed code's contracts. -/
import Derived.Test.YtjbhmdlgokoepaaDoorPmQ
namespace Go.Proofs.YtjbhmdlgokoepaaDoor
open Go.RowKit
theorem polyOne_walkK (zm : List Int) (text : ByteArray) (n0 : zm.length = 16) (w0 : ∀ z ∈ zm, (Lit.int .u8 z).wf = true) (_ : text.size ≤ maxLen) (W : World) (hp : Kp W) :
    Calls Tryd.prog 7 #[.agg (zm.map (Value.int .u8)).toArray, .string text] W fun e w' => e = .returned (.bool true) ∧ Below W.heap.size W w' := polyOne_walk polyC.toPolyC zm text n0 w0 W hp
end Go.Proofs.YtjbhmdlgokoepaaDoor

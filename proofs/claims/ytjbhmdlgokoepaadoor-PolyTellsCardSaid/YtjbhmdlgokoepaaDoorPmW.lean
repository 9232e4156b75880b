/- PolySizes, PolyClamps, PolyAdds, PolyTells: their walks over the landed code's contracts. -/
import Derived.Test.YtjbhmdlgokoepaaDoorPmV
namespace Go.Proofs.YtjbhmdlgokoepaaDoor
open Go.RowKit

theorem polySizes_walkK (key text : ByteArray) (_ : key.size ≤ maxLen) (_ : text.size ≤ maxLen) (W : World) (hp : Kp W) :
    Calls Tryd.prog 8 #[.string key, .string text] W fun e w' => e = .returned (.bool true) ∧ Below W.heap.size W w' := polySizes_walk polyC.toPolyC key text W hp
theorem polyClamps_walkK (zk : List Int) (text : ByteArray) (n0 : zk.length = 32) (w0 : ∀ z ∈ zk, (Lit.int .u8 z).wf = true) (_ : text.size ≤ maxLen) (W : World) (hp : Kp W) :
    Calls Tryd.prog 5 #[.agg (zk.map (Value.int .u8)).toArray, .string text] W fun e w' => e = .returned (.bool true) ∧ Below W.heap.size W w' := polyClamps_walk polyC.toPolyC zk text n0 w0 W hp
theorem polyAdds_walkK (zk zm : List Int) (text : ByteArray) (n0 : zk.length = 32) (w0 : ∀ z ∈ zk, (Lit.int .u8 z).wf = true) (n1 : zm.length = 16) (w1 : ∀ z ∈ zm, (Lit.int .u8 z).wf = true) (_ : text.size ≤ maxLen) (W : World) (hp : Kp W) :
    Calls Tryd.prog 6 #[.agg (zk.map (Value.int .u8)).toArray, .agg (zm.map (Value.int .u8)).toArray, .string text] W fun e w' => e = .returned (.bool true) ∧ Below W.heap.size W w' := polyAdds_walk polyC.toPolyC zk zm text n0 w0 n1 w1 W hp
theorem polyTells_walkK (key text tag : ByteArray) (_ : key.size ≤ maxLen) (_ : text.size ≤ maxLen) (_ : tag.size ≤ maxLen) (W : World) (hp : Kp W) :
    Calls Tryd.prog 3 #[.string key, .string text, .string tag] W fun e w' => e = .returned (.bool true) ∧ Below W.heap.size W w' := polyTells_walk polyC key text tag W hp
end Go.Proofs.YtjbhmdlgokoepaaDoor

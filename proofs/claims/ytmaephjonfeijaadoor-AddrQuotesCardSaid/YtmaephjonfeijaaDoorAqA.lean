/- The record of layer 9's contracts, of the landed code (addrB: the text AqB); the laws over it. -/
import Derived.Test.YtmaephjonfeijaaDoorAqB
import Derived.Test.YtmaephjonfeijaaDoorApX
namespace Go.Proofs.YtmaephjonfeijaaDoor
open Go.RowKit

theorem addrC : AddrC := { addrB with awake := fun w => awake9_walk addrB w }
theorem addrReads_walkK (s : ByteArray) (h : s.size ≤ maxLen) (W : World) : Calls Tryd.prog 3 #[.string s] W fun e w' => e = .returned (.bool true) ∧ Below W.heap.size W w' := addrReads_walkX addrC s h W
theorem addrTells_walkK (s : ByteArray) (h : s.size ≤ maxLen) (W : World) : Calls Tryd.prog 4 #[.string s] W fun e w' => e = .returned (.bool true) ∧ Below W.heap.size W w' := addrTells_walkX addrC s h W
theorem addrWrites_walkK (L D : ByteArray) (W : World) : Calls Tryd.prog 5 #[.agg #[.string L, .string D]] W fun e w' => e = .returned (.bool true) ∧ Below W.heap.size W w' := addrWrites_walkX addrC L D W
theorem addrBack_walkK (L D s : ByteArray) (h : s.size ≤ maxLen) (W : World) : Calls Tryd.prog 6 #[.agg #[.string L, .string D], .string s] W fun e w' => e = .returned (.bool true) ∧ Below W.heap.size W w' := addrBack_walkX addrC L D s h W
theorem addrSmall_walkK (L D : ByteArray) (a : Option Addr) (len cap : Nat) (zs : List Bool) (W : World) (hz : IsBls W a len cap zs) : Calls Tryd.prog 7 #[.agg #[.string L, .string D], .slice a len cap] W fun e w' => e = .returned (.bool true) ∧ Below W.heap.size W w' := addrSmall_walkX addrC L D a len cap zs W hz
theorem addrRoutes_walkK (L D : ByteArray) (a : Option Addr) (len cap : Nat) (ss : List ByteArray) (W : World) (hl : IsTexts W a len cap ss) : Calls Tryd.prog 8 #[.agg #[.string L, .string D], .slice a len cap] W fun e w' => e = .returned (.bool true) ∧ Below W.heap.size W w' := addrRoutes_walkX addrC L D a len cap ss W hl
theorem addrQuotes_walkK (L D : ByteArray) (a : Option Addr) (len cap : Nat) (zs : List Bool) (W : World) (hz : IsBls W a len cap zs) : Calls Tryd.prog 9 #[.agg #[.string L, .string D], .slice a len cap] W fun e w' => e = .returned (.bool true) ∧ Below W.heap.size W w' := addrQuotes_walkX addrC L D a len cap zs W hz
end Go.Proofs.YtmaephjonfeijaaDoor

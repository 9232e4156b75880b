/- AddrRoutes and AddrQuotes whole. -/
import Derived.Test.YtmaephjonfeijaaDoorApQ
namespace Go.Proofs.YtmaephjonfeijaaDoor
open Go.RowKit

theorem addrRoutes_walk (C : AddrC) (b : BoxA) (a : Option Addr) (len cap : Nat) (ss : List ByteArray) (W : World) (hl : IsTexts W a len cap ss) :
    Calls Tryd.prog 8 #[boxV b, .slice a len cap] W fun e w' => e = .returned (.bool true) ∧ Below W.heap.size W w' := by
  by_cases h : b.loc.length ≤ 2048 ∧ b.dom.length ≤ 2048
  · cases hm : mayB b with
    | false => exact addrRoutes_no C b a len cap W h.1 h.2 hm
    | true => exact addrRoutes_may C b a len cap ss W h.1 h.2 hm hl
  · exact addrRoutes_large C b a len cap W h
theorem addrQuotes_walk (C : AddrC) (b : BoxA) (a : Option Addr) (len cap : Nat) (zs : List Bool) (W : World) (hz : IsBls W a len cap zs) :
    Calls Tryd.prog 9 #[boxV b, .slice a len cap] W fun e w' => e = .returned (.bool true) ∧ Below W.heap.size W w' := by
  by_cases h : b.loc.length ≤ 2048 ∧ b.dom.length ≤ 2048
  · cases hm : mayB b with
    | false => exact addrQuotes_no C b a len cap W h.1 h.2 hm
    | true => exact addrQuotes_may C b a len cap zs W h.1 h.2 hm hz
  · exact addrQuotes_large C b a len cap W h
end Go.Proofs.YtmaephjonfeijaaDoor

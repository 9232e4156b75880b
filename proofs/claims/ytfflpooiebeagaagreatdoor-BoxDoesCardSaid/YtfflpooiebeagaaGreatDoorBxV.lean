/- Layer 7's laws over the landed code's contracts: BoxDoes, BoxKeys, BoxReal. -/
import Derived.Test.YtfflpooiebeagaaGreatDoorBxU
import Derived.Test.YtfflpooiebeagaaGreatDoorLwD
import Derived.Test.YtfflpooiebeagaaGreatDoorLwY
import Derived.Test.YtfflpooiebeagaaGreatDoorLwZ
namespace Go.Proofs.YtfflpooiebeagaaGreatDoor
open Go.RowKit

theorem boxDoes_walkK (ideal : Bool) (draws : ByteArray) (a : Option Addr) (len cap : Nat) (zs : List ActB) (W : World) (hd : draws.size ≤ maxLen) (hl : IsActs W a len cap zs) (hp : PKB W) :
    Calls Tryz.prog 3 #[.bool ideal, .string draws, .slice a len cap] W fun e w' => e = .returned (.bool true) ∧ Below W.heap.size W w' := boxDoes_walk boxC ideal draws a len cap zs W hd hl hp
theorem boxKeys_walkK (master domain : ByteArray) (epoch : Int) (hm : master.size ≤ maxLen) (hd : domain.size ≤ maxLen) (wf : (Lit.int .u64 epoch).wf = true) (W : World) (hp : PKB W) :
    Calls Tryz.prog 4 #[.string master, .string domain, .int .u64 epoch] W fun e w' => e = .returned (.bool true) ∧ Below W.heap.size W w' := boxKeys_walk boxC master domain epoch hm hd wf W hp
theorem boxReal_walkK (y : ActB) (hok : ActOk y) (W : World) (hp : PKB W) :
    Calls Tryz.prog 5 #[.agg (actC y)] W fun e w' => e = .returned (.bool true) ∧ Below W.heap.size W w' := boxReal_walk boxC y hok W hp
end Go.Proofs.YtfflpooiebeagaaGreatDoor

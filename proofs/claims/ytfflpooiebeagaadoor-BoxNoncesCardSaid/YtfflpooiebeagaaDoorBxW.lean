/- Layer 7's laws over the landed code's contracts: BoxNonces, BoxOpens, BoxBlind. -/
import Derived.Test.YtfflpooiebeagaaDoorBxU
import Derived.Test.YtfflpooiebeagaaDoorLwN
import Derived.Test.YtfflpooiebeagaaDoorLwO
import Derived.Test.YtfflpooiebeagaaDoorLwV
import Derived.Test.YtfflpooiebeagaaDoorLwZ
namespace Go.Proofs.YtfflpooiebeagaaDoor
open Go.RowKit

theorem boxNonces_walkK (draws : ByteArray) (a : Option Addr) (len cap : Nat) (zs : List ActB) (W : World) (hd : draws.size ≤ maxLen) (hl : IsActs W a len cap zs) (hp : PKB W) :
    Calls Tryd.prog 5 #[.string draws, .slice a len cap] W fun e w' => e = .returned (.bool true) ∧ Below W.heap.size W w' := boxNonces_walk boxC draws a len cap zs W hd hl hp
theorem boxOpens_walkK (draws : ByteArray) (a : Option Addr) (len cap : Nat) (zs : List ActB) (W : World) (hd : draws.size ≤ maxLen) (hl : IsActs W a len cap zs) (hp : PKB W) :
    Calls Tryd.prog 3 #[.string draws, .slice a len cap] W fun e w' => e = .returned (.bool true) ∧ Below W.heap.size W w' := boxOpens_walk boxC draws a len cap zs W hd hl hp
theorem boxBlind_walkK (draws : ByteArray) (a : Option Addr) (len cap : Nat) (zs : List ActB) (other : ByteArray) (W : World) (hd : draws.size ≤ maxLen) (hl : IsActs W a len cap zs) (ho : other.size ≤ 140737488355328) (hp : PKB W) :
    Calls Tryd.prog 4 #[.string draws, .slice a len cap, .string other] W fun e w' => e = .returned (.bool true) ∧ Below W.heap.size W w' := boxBlind_walk boxC draws a len cap zs other W hd hl ho hp
end Go.Proofs.YtfflpooiebeagaaDoor

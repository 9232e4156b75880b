/- AeadSeals where its arguments hold at most 2^20 letters together. -/
import Derived.Test.YtppikhhapaejjaaDoorM8
namespace Go.Proofs.YtppikhhapaejjaaDoor
open Go.RowKit

theorem aeadSeals_walkU (key nonce data text : ByteArray) (_ : key.size ≤ maxLen) (_ : nonce.size ≤ maxLen) (_ : data.size ≤ maxLen) (_ : text.size ≤ maxLen) (hb : key.size + 1 + (nonce.size + 1 + (data.size + 1 + (text.size + 1 + 0))) ≤ 1048576) (W : World) (hp : PK W) :
    Calls Tryd.prog 3 #[.string key, .string nonce, .string data, .string text] W fun e w' => e = .returned (.bool true) ∧ Below W.heap.size W w' := aeadSeals_walkK key nonce data text (by omega) (by omega) W hp
end Go.Proofs.YtppikhhapaejjaaDoor

/- addr, landed: the record of its contracts. -/
import Derived.Test.YtmaephjonfeijaaDoorApX
import Derived.Test.YtmaephjonfeijaaDoorMJ
namespace Go.Proofs.YtmaephjonfeijaaDoor
open Go.RowKit

theorem addrB : AddrB where
  domain := fun s _ w => lDomain_any s w
  local' := fun s h w => lLocal_any s (Nat.le_trans h (by decide)) w
  plain := fun s h w => lPlain_any s (Nat.le_trans h (by decide)) w
  may := fun b h1 _ w => lmay_any b (Nat.le_trans h1 (by decide)) w
  write := fun b h1 h2 w => lwrite_any b (Nat.le_trans h1 (by decide)) (Nat.le_trans h2 (by decide)) w
  path := fun b h1 h2 w => lpath_any b (Nat.le_trans h1 (by decide)) (Nat.le_trans h2 (by decide)) w
  read := lread_any
  parse := lparse_any
end Go.Proofs.YtmaephjonfeijaaDoor

/- The document's own layer 8: Ends, Same, Unstuff, Join. -/
import Derived.Test.YtmaephjonfeijaaDoorOs
import Derived.Test.YtmaephjonfeijaaDoorLnN
import Derived.Test.YtmaephjonfeijaaDoorM1
namespace Go.Proofs.YtmaephjonfeijaaDoor
open Go.RowKit

theorem endAt_of {s : ByteArray} {i : Nat} (h : i + 1 < s.size) : endAt s.data.toList i ↔ s[i] = 13 ∧ s[i + 1] = 10 := by
  unfold endAt
  rw [byte_at (by omega), byte_at h]
  simp

end Go.Proofs.YtmaephjonfeijaaDoor

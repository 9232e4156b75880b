/- The record of layer 7's contracts, of the landed code. -/
import Derived.Test.YtfflpooiebeagaaDoorBxT
import Derived.Test.YtfflpooiebeagaaDoorM7
namespace Go.Proofs.YtfflpooiebeagaaDoor
open Go.RowKit

theorem boxBB : BoxB PKB BxL := boxB (fun k n d t w h => seal_any k n d t w h.2) (fun k n d s hs w h => open_any k n d s hs w h.2)
theorem boxC : BoxC PKB BxL := { boxBB with awake := fun w h => awake7_walk boxBB w h }
end Go.Proofs.YtfflpooiebeagaaDoor

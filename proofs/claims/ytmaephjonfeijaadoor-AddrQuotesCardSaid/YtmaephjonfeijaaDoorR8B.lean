/- The document's own layer 8: Same, Split. -/
import Derived.Test.YtmaephjonfeijaaDoorR8A
import Derived.Deep.RegionHeld3
namespace Go.Proofs.YtmaephjonfeijaaDoor
open Go.RowKit

end Go.Proofs.YtmaephjonfeijaaDoor

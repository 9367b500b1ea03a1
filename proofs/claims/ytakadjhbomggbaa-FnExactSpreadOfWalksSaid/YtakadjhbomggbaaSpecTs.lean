/- The model's functions of chapter 3, by their contracts: what is above, neighbours, breadth orders. -/
import Derived.Test.YtakadjhbomggbaaSpecTr
import Derived.Test.YtakadjhbomggbaaMathNr
import Derived.Test.YtakadjhbomggbaaPut
import Derived.Deep.LoopGhost
namespace Go.Proofs.Ytakadjhbomggbaa
open Go.RowKit

end Go.Proofs.Ytakadjhbomggbaa

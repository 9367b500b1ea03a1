/- The model's functions of chapter 3, by their contracts: what is above, neighbours, breadth orders. -/
import Derived.Test.YtfkejkkplafciadSpecTr
import Derived.Test.YtfkejkkplafciadMathNr
import Derived.Test.YtfkejkkplafciadPut
import Derived.Deep.LoopGhost
namespace Go.Proofs.Ytfkejkkplafciad
open Go.RowKit

end Go.Proofs.Ytfkejkkplafciad

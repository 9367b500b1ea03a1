/- The program's functions of chapter 1, by their contracts: lists below others. -/
import Derived.Test.YtochmifhhigfhabImplC
import Derived.Test.YtochmifhhigfhabSpecD
namespace Go.Proofs.Ytochmifhhigfhab
open Go.RowKit

end Go.Proofs.Ytochmifhhigfhab

/- The program's functions of chapter 1, by their contracts: lists below others. -/
import Derived.Test.YtochmifhhigfhacImplC
import Derived.Test.YtochmifhhigfhacSpecD
namespace Go.Proofs.Ytochmifhhigfhac
open Go.RowKit

end Go.Proofs.Ytochmifhhigfhac

/- The program's functions of chapter 1, by their contracts: lists below others. -/
import Derived.Test.YtochmifhhigfhaaImplC
import Derived.Test.YtochmifhhigfhaaSpecD
namespace Go.Proofs.Ytochmifhhigfhaa
open Go.RowKit

end Go.Proofs.Ytochmifhhigfhaa

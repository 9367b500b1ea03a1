/- The program's functions of chapter 1, by their contracts: lists below others. -/
import Derived.Test.YtfkejkkplafciabImplC
import Derived.Test.YtfkejkkplafciabSpecD
namespace Go.Proofs.Ytfkejkkplafciab
open Go.RowKit

end Go.Proofs.Ytfkejkkplafciab

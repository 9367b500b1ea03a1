/- The program's functions of chapter 1, by their contracts: lists below others. -/
import Derived.Test.YtfkejkkplafciacImplC
import Derived.Test.YtfkejkkplafciacSpecD
namespace Go.Proofs.Ytfkejkkplafciac
open Go.RowKit

end Go.Proofs.Ytfkejkkplafciac

/- The program's functions of chapter 1, by their contracts: lists below others. -/
import Derived.Test.YtfkejkkplafciadImplC
import Derived.Test.YtfkejkkplafciadSpecD
namespace Go.Proofs.Ytfkejkkplafciad
open Go.RowKit

end Go.Proofs.Ytfkejkkplafciad

/- The program's functions of chapter 1, by their contracts: lists below others. -/
import Derived.Test.YtehdccfkkfkciabImplC
import Derived.Test.YtehdccfkkfkciabSpecD
namespace Go.Proofs.Ytehdccfkkfkciab
open Go.RowKit

end Go.Proofs.Ytehdccfkkfkciab

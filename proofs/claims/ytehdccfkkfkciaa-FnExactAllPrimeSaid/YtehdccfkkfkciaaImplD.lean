/- The program's functions of chapter 1, by their contracts: lists below others. -/
import Derived.Test.YtehdccfkkfkciaaImplC
import Derived.Test.YtehdccfkkfkciaaSpecD
namespace Go.Proofs.Ytehdccfkkfkciaa
open Go.RowKit

end Go.Proofs.Ytehdccfkkfkciaa

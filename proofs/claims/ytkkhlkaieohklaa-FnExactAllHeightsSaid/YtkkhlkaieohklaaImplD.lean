/- The program's functions of chapter 1, by their contracts: lists below others. -/
import Derived.Test.YtkkhlkaieohklaaImplC
import Derived.Test.YtkkhlkaieohklaaSpecD
namespace Go.Proofs.Ytkkhlkaieohklaa
open Go.RowKit

end Go.Proofs.Ytkkhlkaieohklaa

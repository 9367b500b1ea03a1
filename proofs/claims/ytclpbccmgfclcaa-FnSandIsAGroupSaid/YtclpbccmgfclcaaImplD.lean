/- The program's functions of chapter 1, by their contracts: lists below others. -/
import Derived.Test.YtclpbccmgfclcaaImplC
import Derived.Test.YtclpbccmgfclcaaSpecD
namespace Go.Proofs.Ytclpbccmgfclcaa
open Go.RowKit

end Go.Proofs.Ytclpbccmgfclcaa

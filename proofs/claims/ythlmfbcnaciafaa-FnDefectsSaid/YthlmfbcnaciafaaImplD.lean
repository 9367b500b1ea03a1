/- The program's functions of chapter 1, by their contracts: lists below others. -/
import Derived.Test.YthlmfbcnaciafaaImplC
import Derived.Test.YthlmfbcnaciafaaSpecD
namespace Go.Proofs.Ythlmfbcnaciafaa
open Go.RowKit

end Go.Proofs.Ythlmfbcnaciafaa

/- Whether a list is under bounds: the program's function, by its contract. -/
import Derived.Test.YthlmfbcnaciafaaSrt
import Derived.Test.YthlmfbcnaciafaaMathSm
namespace Go.Proofs.Ythlmfbcnaciafaa
open Go.RowKit

end Go.Proofs.Ythlmfbcnaciafaa

/- The indices of a list: the program's function, by its contract. -/
import Derived.Test.YthlmfbcnaciafaaBase
import Derived.Test.YthlmfbcnaciafaaHelp
import Derived.Test.YthlmfbcnaciafaaMathSm
namespace Go.Proofs.Ythlmfbcnaciafaa
open Go.RowKit

end Go.Proofs.Ythlmfbcnaciafaa

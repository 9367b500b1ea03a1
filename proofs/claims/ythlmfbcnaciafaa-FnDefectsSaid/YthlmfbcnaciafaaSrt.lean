/- The library's sort and clone of slices of integers, in these words. -/
import Derived.Test.YthlmfbcnaciafaaShelf
import Derived.Test.YthlmfbcnaciafaaSpecS
import Derived.Test.YthlmfbcnaciafaaLawKit
import Derived.Sort.OwnSortedInts
namespace Go.Proofs.Ythlmfbcnaciafaa
open Go.RowKit

end Go.Proofs.Ythlmfbcnaciafaa

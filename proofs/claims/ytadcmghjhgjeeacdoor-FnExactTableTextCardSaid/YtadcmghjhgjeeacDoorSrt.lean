/- The library's sort and clone of slices of integers, in these words. -/
import Derived.Test.YtadcmghjhgjeeacDoorShelf
import Derived.Test.YtadcmghjhgjeeacDoorSpecS
import Derived.Test.YtadcmghjhgjeeacDoorLawKit
import Derived.Sort.OwnSortedInts
namespace Go.Proofs.YtadcmghjhgjeeacDoor
open Go.RowKit

end Go.Proofs.YtadcmghjhgjeeacDoor

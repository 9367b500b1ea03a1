/- The program's functions of chapter 1, by their contracts: lists below others. -/
import Derived.Test.YtkkhlkaieohklabGreatImplC
import Derived.Test.YtkkhlkaieohklabGreatSpecD
namespace Go.Proofs.YtkkhlkaieohklabGreat
open Go.RowKit

end Go.Proofs.YtkkhlkaieohklabGreat

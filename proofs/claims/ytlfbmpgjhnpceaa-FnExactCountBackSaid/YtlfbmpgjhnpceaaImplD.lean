/- The program's functions of chapter 1, by their contracts: lists below others. -/
import Derived.Test.YtlfbmpgjhnpceaaImplC
import Derived.Test.YtlfbmpgjhnpceaaSpecD
namespace Go.Proofs.Ytlfbmpgjhnpceaa
open Go.RowKit

end Go.Proofs.Ytlfbmpgjhnpceaa

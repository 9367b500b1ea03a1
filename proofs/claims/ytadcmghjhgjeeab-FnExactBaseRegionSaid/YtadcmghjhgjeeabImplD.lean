/- The program's functions of chapter 1, by their contracts: lists below others. -/
import Derived.Test.YtadcmghjhgjeeabImplC
import Derived.Test.YtadcmghjhgjeeabSpecD
namespace Go.Proofs.Ytadcmghjhgjeeab
open Go.RowKit

end Go.Proofs.Ytadcmghjhgjeeab

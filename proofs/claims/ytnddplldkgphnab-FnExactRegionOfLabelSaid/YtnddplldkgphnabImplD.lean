/- The program's functions of chapter 1, by their contracts: lists below others. -/
import Derived.Test.YtnddplldkgphnabImplC
import Derived.Test.YtnddplldkgphnabSpecD
namespace Go.Proofs.Ytnddplldkgphnab
open Go.RowKit

end Go.Proofs.Ytnddplldkgphnab

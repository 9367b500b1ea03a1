/- The program's functions of chapter 1, by their contracts: lists below others. -/
import Derived.Test.YtnddplldkgphnacImplC
import Derived.Test.YtnddplldkgphnacSpecD
namespace Go.Proofs.Ytnddplldkgphnac
open Go.RowKit

end Go.Proofs.Ytnddplldkgphnac

/- The program's functions of chapter 1, by their contracts: lists below others. -/
import Derived.Test.YtabhhmnilidppabImplC
import Derived.Test.YtabhhmnilidppabSpecD
namespace Go.Proofs.Ytabhhmnilidppab
open Go.RowKit

end Go.Proofs.Ytabhhmnilidppab

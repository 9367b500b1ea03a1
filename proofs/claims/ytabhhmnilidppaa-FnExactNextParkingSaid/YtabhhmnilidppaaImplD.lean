/- The program's functions of chapter 1, by their contracts: lists below others. -/
import Derived.Test.YtabhhmnilidppaaImplC
import Derived.Test.YtabhhmnilidppaaSpecD
namespace Go.Proofs.Ytabhhmnilidppaa
open Go.RowKit

end Go.Proofs.Ytabhhmnilidppaa

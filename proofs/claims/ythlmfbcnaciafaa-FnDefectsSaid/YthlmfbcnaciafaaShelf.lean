/- Contracts of library functions at this program, laid by the kit. -/
import Derived.Shelf.Bits.Mul64
import Derived.Test.YthlmfbcnaciafaaProg
namespace Go.Proofs
open Go.Shelf
end Go.Proofs

/- The program's functions of chapter 1, by their contracts: lists below others. -/
import Derived.Test.YtpjgidjkpcbniabImplC
import Derived.Test.YtpjgidjkpcbniabSpecD
namespace Go.Proofs.Ytpjgidjkpcbniab
open Go.RowKit

end Go.Proofs.Ytpjgidjkpcbniab

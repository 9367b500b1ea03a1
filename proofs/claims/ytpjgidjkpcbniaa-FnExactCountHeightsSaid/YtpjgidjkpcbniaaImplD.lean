/- The program's functions of chapter 1, by their contracts: lists below others. -/
import Derived.Test.YtpjgidjkpcbniaaImplC
import Derived.Test.YtpjgidjkpcbniaaSpecD
namespace Go.Proofs.Ytpjgidjkpcbniaa
open Go.RowKit

end Go.Proofs.Ytpjgidjkpcbniaa

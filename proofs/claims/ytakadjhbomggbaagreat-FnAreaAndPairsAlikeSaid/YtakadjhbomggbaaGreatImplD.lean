/- The program's functions of chapter 1, by their contracts: lists below others. -/
import Derived.Test.YtakadjhbomggbaaGreatImplC
import Derived.Test.YtakadjhbomggbaaGreatSpecD
namespace Go.Proofs.YtakadjhbomggbaaGreat
open Go.RowKit

end Go.Proofs.YtakadjhbomggbaaGreat

/- Chapter 9: favourites in another order, by the contracts of the functions. -/
import Derived.Test.YtnddplldkgphnaaGreatMathVv
import Derived.Test.YtnddplldkgphnaaGreatHelp
import Derived.StillTailTactics
namespace Go.Proofs.YtnddplldkgphnaaGreat
open Go.RowKit

end Go.Proofs.YtnddplldkgphnaaGreat

/- The model's numbers put in their places, by its contract. -/
import Derived.Test.YtakadjhbomggbaaSpecO
import Derived.Test.YtakadjhbomggbaaSpecS
import Derived.Test.YtakadjhbomggbaaMathPu
import Derived.Deep.LoopGhost
namespace Go.Proofs.Ytakadjhbomggbaa
open Go.RowKit

theorem own_lit1 (w : World) (B : Nat) (x : Int) (hB : B ≤ w.heap.size) : Own (w.alloc (.cells #[.int .i64 x] 3)) B (some ⟨w.heap.size, 0, none⟩) 1 1 [x] :=
  ⟨World.ownsRow_lit w #[.int .i64 x] 1 hB (by unfold maxLen; omega) (by simp), by simp⟩

end Go.Proofs.Ytakadjhbomggbaa

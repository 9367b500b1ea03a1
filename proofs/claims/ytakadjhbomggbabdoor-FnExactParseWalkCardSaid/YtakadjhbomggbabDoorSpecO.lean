/- A copy that is appended to an empty literal. -/
import Derived.Test.YtakadjhbomggbabDoorSpecD
namespace Go.Proofs.YtakadjhbomggbabDoor
open Go.RowKit

theorem own_lit0 (w : World) (B : Nat) (hB : B ≤ w.heap.size) : Own (w.alloc (.cells #[] 3)) B (some ⟨w.heap.size, 0, none⟩) 0 0 [] :=
  ⟨World.ownsRow_lit w #[] 0 hB (by unfold maxLen; omega) (by simp), by simp⟩

end Go.Proofs.YtakadjhbomggbabDoor

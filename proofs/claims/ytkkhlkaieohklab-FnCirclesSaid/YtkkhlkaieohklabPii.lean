/- What a call comes to that answers with a list, a number and a bool. -/
import Derived.Test.YtkkhlkaieohklabHelp
namespace Go.Proofs.Ytkkhlkaieohklab
open Go.RowKit

/-- A slice of the call's own, a number and a bool. -/
def PostIntsInt (w : World) (r : List Int × Int × Bool) (e : Ending) (w' : World) : Prop :=
  ∃ a m cap, e = .returned (.tuple #[.slice a m cap, .int .i64 r.2.1, .bool r.2.2]) ∧ Own w' w.heap.size a m cap r.1 ∧ Below w.heap.size w w'
theorem postIntsInt {w w' : World} {r : List Int × Int × Bool} {ys : List Int} {x : Int} {ok : Bool} {a : Option Addr} {m cap : Nat} (hr : r = (ys, x, ok)) (h : Own w' w.heap.size a m cap ys) (hb : Below w.heap.size w w') :
    PostIntsInt w r (.returned (.tuple #[.slice a m cap, .int .i64 x, .bool ok])) w' := by subst hr; exact ⟨_, _, _, rfl, h, hb⟩
end Go.Proofs.Ytkkhlkaieohklab

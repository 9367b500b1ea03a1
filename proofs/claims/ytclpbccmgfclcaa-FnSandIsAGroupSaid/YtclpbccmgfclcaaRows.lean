/-
  No cell of these rows narrows 'for every input' (looked for: loops, veiled, ifaces, maps, wideKeys, modest, calm, conditions, laid).
  DERIVED. THE GIVEN ROWS OF THIS SEAT. 3 by the template 'for every input the law returns true; each argument reads behind the call as it read before'; 0 by the template 'total and deterministic' (their statements: YtclpbccmgfclcaaTotals.lean).
  GIVEN WITH THE SEED: the statements are not yours to turn. If you find one false, say at which input.
  Laid BY PROGRAM, IN A SANDBOX (cutbox-rows.mjs): the forced cells as the released guide's own fill.sh prints them over the translation 0550bbddbb642dcd… (all of the seat's roots in one cut). By AI agents, Wed Nov 11 2026. No macro, syntax, notation, axiom, sorry.
-/
import Derived.Test.YtclpbccmgfclcaaChecked
import GoSem.Claim
import GoSem.ClaimJoined
import GoSem.ClaimMapViews
import Derived.JoinedTies
import Derived.KernelRfl
namespace Go.Proofs.Ytclpbccmgfclcaa
/- THE CELL 'sum', in the pinned program and in every row, IS THE sha256 OF THE DUMP (.gsa) THAT YtclpbccmgfclcaaProg.lean LOADS. Nothing in Lean hashes anything: it is a label: what it is worth is what the hold of that sum in a sandbox is worth. -/
noncomputable def Try.pinned : Pinned := { name := "ytclpbccmgfclcaa", sum := "0550bbddbb642dcdd1278bea903f6fa5e5c702be3601c2b11d0e4388e76e94fa", checked := Try.checked }
namespace Rows
def none {H : Type} : Left H := { results := [], args := [] }

/-- 'laws.FnSandSettles': WHATEVER THE INPUT: true; the input reads as it did. -/
def fnSandSettlesSpec : ChangeSpec := { name := "fnSandSettles", fn := fun _ => fun
  | [d1, d2] => { results := [.lit (.bool true)], args := [d1, d2] }
  | _ => none }
def fnSandSettlesRow : OpenClaim := { program := "ytclpbccmgfclcaa", sum := "0550bbddbb642dcdd1278bea903f6fa5e5c702be3601c2b11d0e4388e76e94fa", func := "loop.example/g01115/laws.FnSandSettles", spec := "fnSandSettles", apart := false }
def FnSandSettlesSaid : Prop := fnSandSettlesRow.holds Try.pinned (OpenSpec.ofChange fnSandSettlesSpec)

/-- ITS FALSE NEIGHBOUR: 'it returns false'. Refute it at one input. -/
def fnSandSettlesWrong : ChangeSpec := { name := "fnSandSettles", fn := fun _ => fun
  | [d1, d2] => { results := [.lit (.bool false)], args := [d1, d2] }
  | _ => none }
def FnSandSettlesWrongFalsely : Prop := fnSandSettlesRow.holds Try.pinned (OpenSpec.ofChange fnSandSettlesWrong)

/-- 'laws.FnRecurrentSand': WHATEVER THE INPUT: true; the input reads as it did. -/
def fnRecurrentSandSpec : ChangeSpec := { name := "fnRecurrentSand", fn := fun _ => fun
  | [d1, d2] => { results := [.lit (.bool true)], args := [d1, d2] }
  | _ => none }
def fnRecurrentSandRow : OpenClaim := { program := "ytclpbccmgfclcaa", sum := "0550bbddbb642dcdd1278bea903f6fa5e5c702be3601c2b11d0e4388e76e94fa", func := "loop.example/g01115/laws.FnRecurrentSand", spec := "fnRecurrentSand", unfollowed := true, recurses := true, apart := false }
def FnRecurrentSandSaid : Prop := fnRecurrentSandRow.holds Try.pinned (OpenSpec.ofChange fnRecurrentSandSpec)

/-- ITS FALSE NEIGHBOUR: 'it returns false'. Refute it at one input. -/
def fnRecurrentSandWrong : ChangeSpec := { name := "fnRecurrentSand", fn := fun _ => fun
  | [d1, d2] => { results := [.lit (.bool false)], args := [d1, d2] }
  | _ => none }
def FnRecurrentSandWrongFalsely : Prop := fnRecurrentSandRow.holds Try.pinned (OpenSpec.ofChange fnRecurrentSandWrong)

/-- 'laws.FnSandIsAGroup': WHATEVER THE INPUT: true; the input reads as it did. -/
def fnSandIsAGroupSpec : ChangeSpec := { name := "fnSandIsAGroup", fn := fun _ => fun
  | [d1, d2] => { results := [.lit (.bool true)], args := [d1, d2] }
  | _ => none }
def fnSandIsAGroupRow : OpenClaim := { program := "ytclpbccmgfclcaa", sum := "0550bbddbb642dcdd1278bea903f6fa5e5c702be3601c2b11d0e4388e76e94fa", func := "loop.example/g01115/laws.FnSandIsAGroup", spec := "fnSandIsAGroup", apart := false }
def FnSandIsAGroupSaid : Prop := fnSandIsAGroupRow.holds Try.pinned (OpenSpec.ofChange fnSandIsAGroupSpec)

/-- ITS FALSE NEIGHBOUR: 'it returns false'. Refute it at one input. -/
def fnSandIsAGroupWrong : ChangeSpec := { name := "fnSandIsAGroup", fn := fun _ => fun
  | [d1, d2] => { results := [.lit (.bool false)], args := [d1, d2] }
  | _ => none }
def FnSandIsAGroupWrongFalsely : Prop := fnSandIsAGroupRow.holds Try.pinned (OpenSpec.ofChange fnSandIsAGroupWrong)

/- THE SECOND FORM. 'bulk': how many values and letters a reading holds, each counted each time it is reached (what is shared counts as often as it is met; a slice's spare places count too). A statement '..UptoSaid' is the law's where the arguments, and the package variables that the reading takes, are together of bulk at most 1048576: NARROWER than '..Said'. Prove '..Said' where nothing that the law and all that it calls make is longer than what came in: it says more and counts as full. Else prove '..UptoSaid'. A law counts once. -/
mutual
def uptoBulk {H : Type} : DataW H → Nat
  | .lit (.string bytes) => bytes.length + 1
  | .lit _ => 1
  | .nil => 1
  | .ptr d => uptoBulk d + 1
  | .slice elems spare => uptoBulkAll elems + uptoBulkAll spare + 1
  | .agg parts => uptoBulkAll parts + 1
  | .iface _ d => uptoBulk d + 1
  | .map entries => uptoBulkEntries entries + 1
  | .held _ => 1
def uptoBulkAll {H : Type} : List (DataW H) → Nat
  | [] => 0
  | d :: r => uptoBulk d + uptoBulkAll r
def uptoBulkEntries {H : Type} : List (Lit × DataW H) → Nat
  | [] => 0
  | x :: r => uptoBulkEntry x + uptoBulkEntries r
def uptoBulkEntry {H : Type} : Lit × DataW H → Nat
  | (.string bytes, d) => bytes.length + uptoBulk d + 1
  | (_, d) => uptoBulk d + 1
 end
def uptoSmall : (H : Type) → List (DataW H) → Bool := fun _ ds => decide (uptoBulkAll ds ≤ 1048576)
def OpenSpec.upto (s : _root_.Go.ChangeSpec) : _root_.Go.OpenSpec := { _root_.Go.OpenSpec.ofChange s with cond := some uptoSmall }

/-- 'laws.FnSandSettles', WHERE WHAT IT READS IS OF BULK AT MOST 1048576: true; the input reads as it did. -/
def fnSandSettlesUptoRow : OpenClaim := { program := "ytclpbccmgfclcaa", sum := "0550bbddbb642dcdd1278bea903f6fa5e5c702be3601c2b11d0e4388e76e94fa", func := "loop.example/g01115/laws.FnSandSettles", spec := "fnSandSettles", apart := false, narrowed := true }
def FnSandSettlesUptoSaid : Prop := fnSandSettlesUptoRow.holds Try.pinned (OpenSpec.upto fnSandSettlesSpec)

/-- 'laws.FnRecurrentSand', WHERE WHAT IT READS IS OF BULK AT MOST 1048576: true; the input reads as it did. -/
def fnRecurrentSandUptoRow : OpenClaim := { program := "ytclpbccmgfclcaa", sum := "0550bbddbb642dcdd1278bea903f6fa5e5c702be3601c2b11d0e4388e76e94fa", func := "loop.example/g01115/laws.FnRecurrentSand", spec := "fnRecurrentSand", unfollowed := true, recurses := true, apart := false, narrowed := true }
def FnRecurrentSandUptoSaid : Prop := fnRecurrentSandUptoRow.holds Try.pinned (OpenSpec.upto fnRecurrentSandSpec)

/-- 'laws.FnSandIsAGroup', WHERE WHAT IT READS IS OF BULK AT MOST 1048576: true; the input reads as it did. -/
def fnSandIsAGroupUptoRow : OpenClaim := { program := "ytclpbccmgfclcaa", sum := "0550bbddbb642dcdd1278bea903f6fa5e5c702be3601c2b11d0e4388e76e94fa", func := "loop.example/g01115/laws.FnSandIsAGroup", spec := "fnSandIsAGroup", apart := false, narrowed := true }
def FnSandIsAGroupUptoSaid : Prop := fnSandIsAGroupUptoRow.holds Try.pinned (OpenSpec.upto fnSandIsAGroupSpec)

end Rows
end Go.Proofs.Ytclpbccmgfclcaa

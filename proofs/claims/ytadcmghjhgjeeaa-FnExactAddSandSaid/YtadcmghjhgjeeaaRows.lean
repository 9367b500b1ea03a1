/-
  No cell of these rows narrows 'for every input' (looked for: loops, veiled, ifaces, maps, wideKeys, modest, calm, conditions, laid).
  DERIVED. THE GIVEN ROWS OF THIS SEAT. 8 by the template 'for every input the law returns true; each argument reads behind the call as it read before'; 0 by the template 'total and deterministic' (their statements: YtadcmghjhgjeeaaTotals.lean).
  GIVEN WITH THE SEED: the statements are not yours to turn. If you find one false, say at which input.
  Laid BY PROGRAM, IN A SANDBOX (cutbox-rows.mjs): the forced cells as the released guide's own fill.sh prints them over the translation 1408f02744f622d8… (all of the seat's roots in one cut). By AI agents, Wed Nov 11 2026. No macro, syntax, notation, axiom, sorry.
-/
import Derived.Test.YtadcmghjhgjeeaaChecked
import GoSem.Claim
import GoSem.ClaimJoined
import GoSem.ClaimMapViews
import Derived.JoinedTies
import Derived.KernelRfl
namespace Go.Proofs.Ytadcmghjhgjeeaa
/- THE CELL 'sum', in the pinned program and in every row, IS THE sha256 OF THE DUMP (.gsa) THAT YtadcmghjhgjeeaaProg.lean LOADS. Nothing in Lean hashes anything: it is a label: what it is worth is what the hold of that sum in a sandbox is worth. -/
noncomputable def Try.pinned : Pinned := { name := "ytadcmghjhgjeeaa", sum := "1408f02744f622d8f43599ae7586ec35ef837d4909f408e57f2730678cb2cac3", checked := Try.checked }
namespace Rows
def none {H : Type} : Left H := { results := [], args := [] }

/-- 'laws.FnExactIsStable': WHATEVER THE INPUT: true; the input reads as it did. -/
def fnExactIsStableSpec : ChangeSpec := { name := "fnExactIsStable", fn := fun _ => fun
  | [d] => { results := [.lit (.bool true)], args := [d] }
  | _ => none }
def fnExactIsStableRow : OpenClaim := { program := "ytadcmghjhgjeeaa", sum := "1408f02744f622d8f43599ae7586ec35ef837d4909f408e57f2730678cb2cac3", func := "loop.example/g01115/laws.FnExactIsStable", spec := "fnExactIsStable", apart := false }
def FnExactIsStableSaid : Prop := fnExactIsStableRow.holds Try.pinned (OpenSpec.ofChange fnExactIsStableSpec)

/-- ITS FALSE NEIGHBOUR: 'it returns false'. Refute it at one input. -/
def fnExactIsStableWrong : ChangeSpec := { name := "fnExactIsStable", fn := fun _ => fun
  | [d] => { results := [.lit (.bool false)], args := [d] }
  | _ => none }
def FnExactIsStableWrongFalsely : Prop := fnExactIsStableRow.holds Try.pinned (OpenSpec.ofChange fnExactIsStableWrong)

/-- 'laws.FnExactToppleSand': WHATEVER THE INPUT: true; the input reads as it did. -/
def fnExactToppleSandSpec : ChangeSpec := { name := "fnExactToppleSand", fn := fun _ => fun
  | [d1, d2] => { results := [.lit (.bool true)], args := [d1, d2] }
  | _ => none }
def fnExactToppleSandRow : OpenClaim := { program := "ytadcmghjhgjeeaa", sum := "1408f02744f622d8f43599ae7586ec35ef837d4909f408e57f2730678cb2cac3", func := "loop.example/g01115/laws.FnExactToppleSand", spec := "fnExactToppleSand", apart := false }
def FnExactToppleSandSaid : Prop := fnExactToppleSandRow.holds Try.pinned (OpenSpec.ofChange fnExactToppleSandSpec)

/-- ITS FALSE NEIGHBOUR: 'it returns false'. Refute it at one input. -/
def fnExactToppleSandWrong : ChangeSpec := { name := "fnExactToppleSand", fn := fun _ => fun
  | [d1, d2] => { results := [.lit (.bool false)], args := [d1, d2] }
  | _ => none }
def FnExactToppleSandWrongFalsely : Prop := fnExactToppleSandRow.holds Try.pinned (OpenSpec.ofChange fnExactToppleSandWrong)

/-- 'laws.FnExactStabilizeSand': WHATEVER THE INPUT: true; the input reads as it did. -/
def fnExactStabilizeSandSpec : ChangeSpec := { name := "fnExactStabilizeSand", fn := fun _ => fun
  | [d] => { results := [.lit (.bool true)], args := [d] }
  | _ => none }
def fnExactStabilizeSandRow : OpenClaim := { program := "ytadcmghjhgjeeaa", sum := "1408f02744f622d8f43599ae7586ec35ef837d4909f408e57f2730678cb2cac3", func := "loop.example/g01115/laws.FnExactStabilizeSand", spec := "fnExactStabilizeSand", apart := false }
def FnExactStabilizeSandSaid : Prop := fnExactStabilizeSandRow.holds Try.pinned (OpenSpec.ofChange fnExactStabilizeSandSpec)

/-- ITS FALSE NEIGHBOUR: 'it returns false'. Refute it at one input. -/
def fnExactStabilizeSandWrong : ChangeSpec := { name := "fnExactStabilizeSand", fn := fun _ => fun
  | [d] => { results := [.lit (.bool false)], args := [d] }
  | _ => none }
def FnExactStabilizeSandWrongFalsely : Prop := fnExactStabilizeSandRow.holds Try.pinned (OpenSpec.ofChange fnExactStabilizeSandWrong)

/-- 'laws.FnExactIsRecurrent': WHATEVER THE INPUT: true; the input reads as it did. -/
def fnExactIsRecurrentSpec : ChangeSpec := { name := "fnExactIsRecurrent", fn := fun _ => fun
  | [d] => { results := [.lit (.bool true)], args := [d] }
  | _ => none }
def fnExactIsRecurrentRow : OpenClaim := { program := "ytadcmghjhgjeeaa", sum := "1408f02744f622d8f43599ae7586ec35ef837d4909f408e57f2730678cb2cac3", func := "loop.example/g01115/laws.FnExactIsRecurrent", spec := "fnExactIsRecurrent", apart := false }
def FnExactIsRecurrentSaid : Prop := fnExactIsRecurrentRow.holds Try.pinned (OpenSpec.ofChange fnExactIsRecurrentSpec)

/-- ITS FALSE NEIGHBOUR: 'it returns false'. Refute it at one input. -/
def fnExactIsRecurrentWrong : ChangeSpec := { name := "fnExactIsRecurrent", fn := fun _ => fun
  | [d] => { results := [.lit (.bool false)], args := [d] }
  | _ => none }
def FnExactIsRecurrentWrongFalsely : Prop := fnExactIsRecurrentRow.holds Try.pinned (OpenSpec.ofChange fnExactIsRecurrentWrong)

/-- 'laws.FnExactSandOfParking': WHATEVER THE INPUT: true; the input reads as it did. -/
def fnExactSandOfParkingSpec : ChangeSpec := { name := "fnExactSandOfParking", fn := fun _ => fun
  | [d] => { results := [.lit (.bool true)], args := [d] }
  | _ => none }
def fnExactSandOfParkingRow : OpenClaim := { program := "ytadcmghjhgjeeaa", sum := "1408f02744f622d8f43599ae7586ec35ef837d4909f408e57f2730678cb2cac3", func := "loop.example/g01115/laws.FnExactSandOfParking", spec := "fnExactSandOfParking", unfollowed := true, recurses := true, apart := false }
def FnExactSandOfParkingSaid : Prop := fnExactSandOfParkingRow.holds Try.pinned (OpenSpec.ofChange fnExactSandOfParkingSpec)

/-- ITS FALSE NEIGHBOUR: 'it returns false'. Refute it at one input. -/
def fnExactSandOfParkingWrong : ChangeSpec := { name := "fnExactSandOfParking", fn := fun _ => fun
  | [d] => { results := [.lit (.bool false)], args := [d] }
  | _ => none }
def FnExactSandOfParkingWrongFalsely : Prop := fnExactSandOfParkingRow.holds Try.pinned (OpenSpec.ofChange fnExactSandOfParkingWrong)

/-- 'laws.FnExactParkingOfSand': WHATEVER THE INPUT: true; the input reads as it did. -/
def fnExactParkingOfSandSpec : ChangeSpec := { name := "fnExactParkingOfSand", fn := fun _ => fun
  | [d] => { results := [.lit (.bool true)], args := [d] }
  | _ => none }
def fnExactParkingOfSandRow : OpenClaim := { program := "ytadcmghjhgjeeaa", sum := "1408f02744f622d8f43599ae7586ec35ef837d4909f408e57f2730678cb2cac3", func := "loop.example/g01115/laws.FnExactParkingOfSand", spec := "fnExactParkingOfSand", apart := false }
def FnExactParkingOfSandSaid : Prop := fnExactParkingOfSandRow.holds Try.pinned (OpenSpec.ofChange fnExactParkingOfSandSpec)

/-- ITS FALSE NEIGHBOUR: 'it returns false'. Refute it at one input. -/
def fnExactParkingOfSandWrong : ChangeSpec := { name := "fnExactParkingOfSand", fn := fun _ => fun
  | [d] => { results := [.lit (.bool false)], args := [d] }
  | _ => none }
def FnExactParkingOfSandWrongFalsely : Prop := fnExactParkingOfSandRow.holds Try.pinned (OpenSpec.ofChange fnExactParkingOfSandWrong)

/-- 'laws.FnExactAddSand': WHATEVER THE INPUT: true; the input reads as it did. -/
def fnExactAddSandSpec : ChangeSpec := { name := "fnExactAddSand", fn := fun _ => fun
  | [d1, d2] => { results := [.lit (.bool true)], args := [d1, d2] }
  | _ => none }
def fnExactAddSandRow : OpenClaim := { program := "ytadcmghjhgjeeaa", sum := "1408f02744f622d8f43599ae7586ec35ef837d4909f408e57f2730678cb2cac3", func := "loop.example/g01115/laws.FnExactAddSand", spec := "fnExactAddSand", apart := false }
def FnExactAddSandSaid : Prop := fnExactAddSandRow.holds Try.pinned (OpenSpec.ofChange fnExactAddSandSpec)

/-- ITS FALSE NEIGHBOUR: 'it returns false'. Refute it at one input. -/
def fnExactAddSandWrong : ChangeSpec := { name := "fnExactAddSand", fn := fun _ => fun
  | [d1, d2] => { results := [.lit (.bool false)], args := [d1, d2] }
  | _ => none }
def FnExactAddSandWrongFalsely : Prop := fnExactAddSandRow.holds Try.pinned (OpenSpec.ofChange fnExactAddSandWrong)

/-- 'laws.FnExactFireOrder': WHATEVER THE INPUT: true; the input reads as it did. -/
def fnExactFireOrderSpec : ChangeSpec := { name := "fnExactFireOrder", fn := fun _ => fun
  | [d] => { results := [.lit (.bool true)], args := [d] }
  | _ => none }
def fnExactFireOrderRow : OpenClaim := { program := "ytadcmghjhgjeeaa", sum := "1408f02744f622d8f43599ae7586ec35ef837d4909f408e57f2730678cb2cac3", func := "loop.example/g01115/laws.FnExactFireOrder", spec := "fnExactFireOrder", apart := false }
def FnExactFireOrderSaid : Prop := fnExactFireOrderRow.holds Try.pinned (OpenSpec.ofChange fnExactFireOrderSpec)

/-- ITS FALSE NEIGHBOUR: 'it returns false'. Refute it at one input. -/
def fnExactFireOrderWrong : ChangeSpec := { name := "fnExactFireOrder", fn := fun _ => fun
  | [d] => { results := [.lit (.bool false)], args := [d] }
  | _ => none }
def FnExactFireOrderWrongFalsely : Prop := fnExactFireOrderRow.holds Try.pinned (OpenSpec.ofChange fnExactFireOrderWrong)

/- THE SECOND FORM. 'bulk': how many values and letters a reading holds, each counted each time it is reached (what is shared counts as often as it is met; a slice's spare places count too). A statement '..UptoSaid' is the law's where the arguments, and the package variables that the reading takes, are together of bulk at most 1048576: NARROWER than '..Said'. Prove '..Said' where nothing that the law and all that it calls make is longer than what came in: it says more and counts as full. Else prove '..UptoSaid'. A law counts once. -/
mutual
def uptoBulk {H : Type} : DataW H → Nat
  | .lit (.string bytes) => bytes.length + 1
  | .lit _ => 1
  | .nil => 1
  | .ptr d => uptoBulk d + 1
  | .slice elems spare => uptoBulkAll elems + uptoBulkAll spare + 1
  | .agg parts => uptoBulkAll parts + 1
  | .iface _ d => uptoBulk d + 1
  | .map entries => uptoBulkEntries entries + 1
  | .held _ => 1
def uptoBulkAll {H : Type} : List (DataW H) → Nat
  | [] => 0
  | d :: r => uptoBulk d + uptoBulkAll r
def uptoBulkEntries {H : Type} : List (Lit × DataW H) → Nat
  | [] => 0
  | x :: r => uptoBulkEntry x + uptoBulkEntries r
def uptoBulkEntry {H : Type} : Lit × DataW H → Nat
  | (.string bytes, d) => bytes.length + uptoBulk d + 1
  | (_, d) => uptoBulk d + 1
 end
def uptoSmall : (H : Type) → List (DataW H) → Bool := fun _ ds => decide (uptoBulkAll ds ≤ 1048576)
def OpenSpec.upto (s : _root_.Go.ChangeSpec) : _root_.Go.OpenSpec := { _root_.Go.OpenSpec.ofChange s with cond := some uptoSmall }

/-- 'laws.FnExactIsStable', WHERE WHAT IT READS IS OF BULK AT MOST 1048576: true; the input reads as it did. -/
def fnExactIsStableUptoRow : OpenClaim := { program := "ytadcmghjhgjeeaa", sum := "1408f02744f622d8f43599ae7586ec35ef837d4909f408e57f2730678cb2cac3", func := "loop.example/g01115/laws.FnExactIsStable", spec := "fnExactIsStable", apart := false, narrowed := true }
def FnExactIsStableUptoSaid : Prop := fnExactIsStableUptoRow.holds Try.pinned (OpenSpec.upto fnExactIsStableSpec)

/-- 'laws.FnExactToppleSand', WHERE WHAT IT READS IS OF BULK AT MOST 1048576: true; the input reads as it did. -/
def fnExactToppleSandUptoRow : OpenClaim := { program := "ytadcmghjhgjeeaa", sum := "1408f02744f622d8f43599ae7586ec35ef837d4909f408e57f2730678cb2cac3", func := "loop.example/g01115/laws.FnExactToppleSand", spec := "fnExactToppleSand", apart := false, narrowed := true }
def FnExactToppleSandUptoSaid : Prop := fnExactToppleSandUptoRow.holds Try.pinned (OpenSpec.upto fnExactToppleSandSpec)

/-- 'laws.FnExactStabilizeSand', WHERE WHAT IT READS IS OF BULK AT MOST 1048576: true; the input reads as it did. -/
def fnExactStabilizeSandUptoRow : OpenClaim := { program := "ytadcmghjhgjeeaa", sum := "1408f02744f622d8f43599ae7586ec35ef837d4909f408e57f2730678cb2cac3", func := "loop.example/g01115/laws.FnExactStabilizeSand", spec := "fnExactStabilizeSand", apart := false, narrowed := true }
def FnExactStabilizeSandUptoSaid : Prop := fnExactStabilizeSandUptoRow.holds Try.pinned (OpenSpec.upto fnExactStabilizeSandSpec)

/-- 'laws.FnExactIsRecurrent', WHERE WHAT IT READS IS OF BULK AT MOST 1048576: true; the input reads as it did. -/
def fnExactIsRecurrentUptoRow : OpenClaim := { program := "ytadcmghjhgjeeaa", sum := "1408f02744f622d8f43599ae7586ec35ef837d4909f408e57f2730678cb2cac3", func := "loop.example/g01115/laws.FnExactIsRecurrent", spec := "fnExactIsRecurrent", apart := false, narrowed := true }
def FnExactIsRecurrentUptoSaid : Prop := fnExactIsRecurrentUptoRow.holds Try.pinned (OpenSpec.upto fnExactIsRecurrentSpec)

/-- 'laws.FnExactSandOfParking', WHERE WHAT IT READS IS OF BULK AT MOST 1048576: true; the input reads as it did. -/
def fnExactSandOfParkingUptoRow : OpenClaim := { program := "ytadcmghjhgjeeaa", sum := "1408f02744f622d8f43599ae7586ec35ef837d4909f408e57f2730678cb2cac3", func := "loop.example/g01115/laws.FnExactSandOfParking", spec := "fnExactSandOfParking", unfollowed := true, recurses := true, apart := false, narrowed := true }
def FnExactSandOfParkingUptoSaid : Prop := fnExactSandOfParkingUptoRow.holds Try.pinned (OpenSpec.upto fnExactSandOfParkingSpec)

/-- 'laws.FnExactParkingOfSand', WHERE WHAT IT READS IS OF BULK AT MOST 1048576: true; the input reads as it did. -/
def fnExactParkingOfSandUptoRow : OpenClaim := { program := "ytadcmghjhgjeeaa", sum := "1408f02744f622d8f43599ae7586ec35ef837d4909f408e57f2730678cb2cac3", func := "loop.example/g01115/laws.FnExactParkingOfSand", spec := "fnExactParkingOfSand", apart := false, narrowed := true }
def FnExactParkingOfSandUptoSaid : Prop := fnExactParkingOfSandUptoRow.holds Try.pinned (OpenSpec.upto fnExactParkingOfSandSpec)

/-- 'laws.FnExactAddSand', WHERE WHAT IT READS IS OF BULK AT MOST 1048576: true; the input reads as it did. -/
def fnExactAddSandUptoRow : OpenClaim := { program := "ytadcmghjhgjeeaa", sum := "1408f02744f622d8f43599ae7586ec35ef837d4909f408e57f2730678cb2cac3", func := "loop.example/g01115/laws.FnExactAddSand", spec := "fnExactAddSand", apart := false, narrowed := true }
def FnExactAddSandUptoSaid : Prop := fnExactAddSandUptoRow.holds Try.pinned (OpenSpec.upto fnExactAddSandSpec)

/-- 'laws.FnExactFireOrder', WHERE WHAT IT READS IS OF BULK AT MOST 1048576: true; the input reads as it did. -/
def fnExactFireOrderUptoRow : OpenClaim := { program := "ytadcmghjhgjeeaa", sum := "1408f02744f622d8f43599ae7586ec35ef837d4909f408e57f2730678cb2cac3", func := "loop.example/g01115/laws.FnExactFireOrder", spec := "fnExactFireOrder", apart := false, narrowed := true }
def FnExactFireOrderUptoSaid : Prop := fnExactFireOrderUptoRow.holds Try.pinned (OpenSpec.upto fnExactFireOrderSpec)

end Rows
end Go.Proofs.Ytadcmghjhgjeeaa

/-
  No cell of these rows narrows 'for every input' (looked for: loops, veiled, ifaces, maps, wideKeys, modest, calm, conditions, laid).
  DERIVED. THE GIVEN ROWS OF THIS SEAT. 6 by the template 'for every input the law returns true; each argument reads behind the call as it read before'; 0 by the template 'total and deterministic' (their statements: YtehdccfkkfkciaaTotals.lean).
  GIVEN WITH THE SEED: the statements are not yours to turn. If you find one false, say at which input.
  Laid BY PROGRAM, IN A SANDBOX (cutbox-rows.mjs): the forced cells as the released guide's own fill.sh prints them over the translation 2143ab5339260b0b… (all of the seat's roots in one cut). By AI agents, Wed Nov 11 2026. No macro, syntax, notation, axiom, sorry.
-/
import Derived.Test.YtehdccfkkfkciaaChecked
import GoSem.Claim
import GoSem.ClaimJoined
import GoSem.ClaimMapViews
import Derived.JoinedTies
import Derived.KernelRfl
namespace Go.Proofs.Ytehdccfkkfkciaa
/- THE CELL 'sum', in the pinned program and in every row, IS THE sha256 OF THE DUMP (.gsa) THAT YtehdccfkkfkciaaProg.lean LOADS. Nothing in Lean hashes anything: it is a label: what it is worth is what the hold of that sum in a sandbox is worth. -/
noncomputable def Try.pinned : Pinned := { name := "ytehdccfkkfkciaa", sum := "2143ab5339260b0bcd375a4b94e6085fa769b8d6d5dc7a94432281da00e3f592", checked := Try.checked }
namespace Rows
def none {H : Type} : Left H := { results := [], args := [] }

/-- 'laws.FnExactIsPrime': WHATEVER THE INPUT: true; the input reads as it did. -/
def fnExactIsPrimeSpec : ChangeSpec := { name := "fnExactIsPrime", fn := fun _ => fun
  | [d] => { results := [.lit (.bool true)], args := [d] }
  | _ => none }
def fnExactIsPrimeRow : OpenClaim := { program := "ytehdccfkkfkciaa", sum := "2143ab5339260b0bcd375a4b94e6085fa769b8d6d5dc7a94432281da00e3f592", func := "loop.example/g01115/laws.FnExactIsPrime", spec := "fnExactIsPrime", unfollowed := true, recurses := true, apart := false }
def FnExactIsPrimeSaid : Prop := fnExactIsPrimeRow.holds Try.pinned (OpenSpec.ofChange fnExactIsPrimeSpec)

/-- ITS FALSE NEIGHBOUR: 'it returns false'. Refute it at one input. -/
def fnExactIsPrimeWrong : ChangeSpec := { name := "fnExactIsPrime", fn := fun _ => fun
  | [d] => { results := [.lit (.bool false)], args := [d] }
  | _ => none }
def FnExactIsPrimeWrongFalsely : Prop := fnExactIsPrimeRow.holds Try.pinned (OpenSpec.ofChange fnExactIsPrimeWrong)

/-- 'laws.FnExactPrimeParts': WHATEVER THE INPUT: true; the input reads as it did. -/
def fnExactPrimePartsSpec : ChangeSpec := { name := "fnExactPrimeParts", fn := fun _ => fun
  | [d] => { results := [.lit (.bool true)], args := [d] }
  | _ => none }
def fnExactPrimePartsRow : OpenClaim := { program := "ytehdccfkkfkciaa", sum := "2143ab5339260b0bcd375a4b94e6085fa769b8d6d5dc7a94432281da00e3f592", func := "loop.example/g01115/laws.FnExactPrimeParts", spec := "fnExactPrimeParts", unfollowed := true, recurses := true, apart := false }
def FnExactPrimePartsSaid : Prop := fnExactPrimePartsRow.holds Try.pinned (OpenSpec.ofChange fnExactPrimePartsSpec)

/-- ITS FALSE NEIGHBOUR: 'it returns false'. Refute it at one input. -/
def fnExactPrimePartsWrong : ChangeSpec := { name := "fnExactPrimeParts", fn := fun _ => fun
  | [d] => { results := [.lit (.bool false)], args := [d] }
  | _ => none }
def FnExactPrimePartsWrongFalsely : Prop := fnExactPrimePartsRow.holds Try.pinned (OpenSpec.ofChange fnExactPrimePartsWrong)

/-- 'laws.FnExactCountPrime': WHATEVER THE INPUT: true; the input reads as it did. -/
def fnExactCountPrimeSpec : ChangeSpec := { name := "fnExactCountPrime", fn := fun _ => fun
  | [d] => { results := [.lit (.bool true)], args := [d] }
  | _ => none }
def fnExactCountPrimeRow : OpenClaim := { program := "ytehdccfkkfkciaa", sum := "2143ab5339260b0bcd375a4b94e6085fa769b8d6d5dc7a94432281da00e3f592", func := "loop.example/g01115/laws.FnExactCountPrime", spec := "fnExactCountPrime", apart := false }
def FnExactCountPrimeSaid : Prop := fnExactCountPrimeRow.holds Try.pinned (OpenSpec.ofChange fnExactCountPrimeSpec)

/-- ITS FALSE NEIGHBOUR: 'it returns false'. Refute it at one input. -/
def fnExactCountPrimeWrong : ChangeSpec := { name := "fnExactCountPrime", fn := fun _ => fun
  | [d] => { results := [.lit (.bool false)], args := [d] }
  | _ => none }
def FnExactCountPrimeWrongFalsely : Prop := fnExactCountPrimeRow.holds Try.pinned (OpenSpec.ofChange fnExactCountPrimeWrong)

/-- 'laws.FnExactAllPrime': WHATEVER THE INPUT: true; the input reads as it did. -/
def fnExactAllPrimeSpec : ChangeSpec := { name := "fnExactAllPrime", fn := fun _ => fun
  | [d] => { results := [.lit (.bool true)], args := [d] }
  | _ => none }
def fnExactAllPrimeRow : OpenClaim := { program := "ytehdccfkkfkciaa", sum := "2143ab5339260b0bcd375a4b94e6085fa769b8d6d5dc7a94432281da00e3f592", func := "loop.example/g01115/laws.FnExactAllPrime", spec := "fnExactAllPrime", unfollowed := true, recurses := true, apart := false }
def FnExactAllPrimeSaid : Prop := fnExactAllPrimeRow.holds Try.pinned (OpenSpec.ofChange fnExactAllPrimeSpec)

/-- ITS FALSE NEIGHBOUR: 'it returns false'. Refute it at one input. -/
def fnExactAllPrimeWrong : ChangeSpec := { name := "fnExactAllPrime", fn := fun _ => fun
  | [d] => { results := [.lit (.bool false)], args := [d] }
  | _ => none }
def FnExactAllPrimeWrongFalsely : Prop := fnExactAllPrimeRow.holds Try.pinned (OpenSpec.ofChange fnExactAllPrimeWrong)

/-- 'laws.FnExactIsUnit': WHATEVER THE INPUT: true; the input reads as it did. -/
def fnExactIsUnitSpec : ChangeSpec := { name := "fnExactIsUnit", fn := fun _ => fun
  | [d1, d2] => { results := [.lit (.bool true)], args := [d1, d2] }
  | _ => none }
def fnExactIsUnitRow : OpenClaim := { program := "ytehdccfkkfkciaa", sum := "2143ab5339260b0bcd375a4b94e6085fa769b8d6d5dc7a94432281da00e3f592", func := "loop.example/g01115/laws.FnExactIsUnit", spec := "fnExactIsUnit", unfollowed := true, recurses := true, apart := false }
def FnExactIsUnitSaid : Prop := fnExactIsUnitRow.holds Try.pinned (OpenSpec.ofChange fnExactIsUnitSpec)

/-- ITS FALSE NEIGHBOUR: 'it returns false'. Refute it at one input. -/
def fnExactIsUnitWrong : ChangeSpec := { name := "fnExactIsUnit", fn := fun _ => fun
  | [d1, d2] => { results := [.lit (.bool false)], args := [d1, d2] }
  | _ => none }
def FnExactIsUnitWrongFalsely : Prop := fnExactIsUnitRow.holds Try.pinned (OpenSpec.ofChange fnExactIsUnitWrong)

/-- 'laws.FnPrimeParts': WHATEVER THE INPUT: true; the input reads as it did. -/
def fnPrimePartsSpec : ChangeSpec := { name := "fnPrimeParts", fn := fun _ => fun
  | [d1, d2] => { results := [.lit (.bool true)], args := [d1, d2] }
  | _ => none }
def fnPrimePartsRow : OpenClaim := { program := "ytehdccfkkfkciaa", sum := "2143ab5339260b0bcd375a4b94e6085fa769b8d6d5dc7a94432281da00e3f592", func := "loop.example/g01115/laws.FnPrimeParts", spec := "fnPrimeParts", unfollowed := true, recurses := true, apart := false }
def FnPrimePartsSaid : Prop := fnPrimePartsRow.holds Try.pinned (OpenSpec.ofChange fnPrimePartsSpec)

/-- ITS FALSE NEIGHBOUR: 'it returns false'. Refute it at one input. -/
def fnPrimePartsWrong : ChangeSpec := { name := "fnPrimeParts", fn := fun _ => fun
  | [d1, d2] => { results := [.lit (.bool false)], args := [d1, d2] }
  | _ => none }
def FnPrimePartsWrongFalsely : Prop := fnPrimePartsRow.holds Try.pinned (OpenSpec.ofChange fnPrimePartsWrong)

/- THE SECOND FORM. 'bulk': how many values and letters a reading holds, each counted each time it is reached (what is shared counts as often as it is met; a slice's spare places count too). A statement '..UptoSaid' is the law's where the arguments, and the package variables that the reading takes, are together of bulk at most 1048576: NARROWER than '..Said'. Prove '..Said' where nothing that the law and all that it calls make is longer than what came in: it says more and counts as full. Else prove '..UptoSaid'. A law counts once. -/
mutual
def uptoBulk {H : Type} : DataW H → Nat
  | .lit (.string bytes) => bytes.length + 1
  | .lit _ => 1
  | .nil => 1
  | .ptr d => uptoBulk d + 1
  | .slice elems spare => uptoBulkAll elems + uptoBulkAll spare + 1
  | .agg parts => uptoBulkAll parts + 1
  | .iface _ d => uptoBulk d + 1
  | .map entries => uptoBulkEntries entries + 1
  | .held _ => 1
def uptoBulkAll {H : Type} : List (DataW H) → Nat
  | [] => 0
  | d :: r => uptoBulk d + uptoBulkAll r
def uptoBulkEntries {H : Type} : List (Lit × DataW H) → Nat
  | [] => 0
  | x :: r => uptoBulkEntry x + uptoBulkEntries r
def uptoBulkEntry {H : Type} : Lit × DataW H → Nat
  | (.string bytes, d) => bytes.length + uptoBulk d + 1
  | (_, d) => uptoBulk d + 1
 end
def uptoSmall : (H : Type) → List (DataW H) → Bool := fun _ ds => decide (uptoBulkAll ds ≤ 1048576)
def OpenSpec.upto (s : _root_.Go.ChangeSpec) : _root_.Go.OpenSpec := { _root_.Go.OpenSpec.ofChange s with cond := some uptoSmall }

/-- 'laws.FnExactIsPrime', WHERE WHAT IT READS IS OF BULK AT MOST 1048576: true; the input reads as it did. -/
def fnExactIsPrimeUptoRow : OpenClaim := { program := "ytehdccfkkfkciaa", sum := "2143ab5339260b0bcd375a4b94e6085fa769b8d6d5dc7a94432281da00e3f592", func := "loop.example/g01115/laws.FnExactIsPrime", spec := "fnExactIsPrime", unfollowed := true, recurses := true, apart := false, narrowed := true }
def FnExactIsPrimeUptoSaid : Prop := fnExactIsPrimeUptoRow.holds Try.pinned (OpenSpec.upto fnExactIsPrimeSpec)

/-- 'laws.FnExactPrimeParts', WHERE WHAT IT READS IS OF BULK AT MOST 1048576: true; the input reads as it did. -/
def fnExactPrimePartsUptoRow : OpenClaim := { program := "ytehdccfkkfkciaa", sum := "2143ab5339260b0bcd375a4b94e6085fa769b8d6d5dc7a94432281da00e3f592", func := "loop.example/g01115/laws.FnExactPrimeParts", spec := "fnExactPrimeParts", unfollowed := true, recurses := true, apart := false, narrowed := true }
def FnExactPrimePartsUptoSaid : Prop := fnExactPrimePartsUptoRow.holds Try.pinned (OpenSpec.upto fnExactPrimePartsSpec)

/-- 'laws.FnExactCountPrime', WHERE WHAT IT READS IS OF BULK AT MOST 1048576: true; the input reads as it did. -/
def fnExactCountPrimeUptoRow : OpenClaim := { program := "ytehdccfkkfkciaa", sum := "2143ab5339260b0bcd375a4b94e6085fa769b8d6d5dc7a94432281da00e3f592", func := "loop.example/g01115/laws.FnExactCountPrime", spec := "fnExactCountPrime", apart := false, narrowed := true }
def FnExactCountPrimeUptoSaid : Prop := fnExactCountPrimeUptoRow.holds Try.pinned (OpenSpec.upto fnExactCountPrimeSpec)

/-- 'laws.FnExactAllPrime', WHERE WHAT IT READS IS OF BULK AT MOST 1048576: true; the input reads as it did. -/
def fnExactAllPrimeUptoRow : OpenClaim := { program := "ytehdccfkkfkciaa", sum := "2143ab5339260b0bcd375a4b94e6085fa769b8d6d5dc7a94432281da00e3f592", func := "loop.example/g01115/laws.FnExactAllPrime", spec := "fnExactAllPrime", unfollowed := true, recurses := true, apart := false, narrowed := true }
def FnExactAllPrimeUptoSaid : Prop := fnExactAllPrimeUptoRow.holds Try.pinned (OpenSpec.upto fnExactAllPrimeSpec)

/-- 'laws.FnExactIsUnit', WHERE WHAT IT READS IS OF BULK AT MOST 1048576: true; the input reads as it did. -/
def fnExactIsUnitUptoRow : OpenClaim := { program := "ytehdccfkkfkciaa", sum := "2143ab5339260b0bcd375a4b94e6085fa769b8d6d5dc7a94432281da00e3f592", func := "loop.example/g01115/laws.FnExactIsUnit", spec := "fnExactIsUnit", unfollowed := true, recurses := true, apart := false, narrowed := true }
def FnExactIsUnitUptoSaid : Prop := fnExactIsUnitUptoRow.holds Try.pinned (OpenSpec.upto fnExactIsUnitSpec)

/-- 'laws.FnPrimeParts', WHERE WHAT IT READS IS OF BULK AT MOST 1048576: true; the input reads as it did. -/
def fnPrimePartsUptoRow : OpenClaim := { program := "ytehdccfkkfkciaa", sum := "2143ab5339260b0bcd375a4b94e6085fa769b8d6d5dc7a94432281da00e3f592", func := "loop.example/g01115/laws.FnPrimeParts", spec := "fnPrimeParts", unfollowed := true, recurses := true, apart := false, narrowed := true }
def FnPrimePartsUptoSaid : Prop := fnPrimePartsUptoRow.holds Try.pinned (OpenSpec.upto fnPrimePartsSpec)

end Rows
end Go.Proofs.Ytehdccfkkfkciaa

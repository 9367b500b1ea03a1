/-
  No cell of these rows narrows 'for every input' (looked for: loops, veiled, ifaces, maps, wideKeys, modest, calm, conditions, laid).
  DERIVED. THE GIVEN ROWS OF THIS SEAT. 7 by the template 'for every input the law returns true; each argument reads behind the call as it read before'; 0 by the template 'total and deterministic' (their statements: YtochmifhhigfhabTotals.lean).
  GIVEN WITH THE SEED: the statements are not yours to turn. If you find one false, say at which input.
  Laid BY PROGRAM, IN A SANDBOX (cutbox-rows.mjs): the forced cells as the released guide's own fill.sh prints them over the translation 5bad04d43dc0d571… (all of the seat's roots in one cut). By AI agents, Wed Nov 11 2026. No macro, syntax, notation, axiom, sorry.
-/
import Derived.Test.YtochmifhhigfhabChecked
import GoSem.Claim
import GoSem.ClaimJoined
import GoSem.ClaimMapViews
import Derived.JoinedTies
import Derived.KernelRfl
namespace Go.Proofs.Ytochmifhhigfhab
/- THE CELL 'sum', in the pinned program and in every row, IS THE sha256 OF THE DUMP (.gsa) THAT YtochmifhhigfhabProg.lean LOADS. Nothing in Lean hashes anything: it is a label: what it is worth is what the hold of that sum in a sandbox is worth. -/
noncomputable def Try.pinned : Pinned := { name := "ytochmifhhigfhab", sum := "5bad04d43dc0d571aec23c53a792e835580a17bb5a12c2b5a9bc8a8fd092b357", checked := Try.checked }
namespace Rows
def none {H : Type} : Left H := { results := [], args := [] }

/-- 'laws.FnExactInversionsOf': WHATEVER THE INPUT: true; the input reads as it did. -/
def fnExactInversionsOfSpec : ChangeSpec := { name := "fnExactInversionsOf", fn := fun _ => fun
  | [d] => { results := [.lit (.bool true)], args := [d] }
  | _ => none }
def fnExactInversionsOfRow : OpenClaim := { program := "ytochmifhhigfhab", sum := "5bad04d43dc0d571aec23c53a792e835580a17bb5a12c2b5a9bc8a8fd092b357", func := "loop.example/g01115/laws.FnExactInversionsOf", spec := "fnExactInversionsOf", unfollowed := true, recurses := true, apart := false }
def FnExactInversionsOfSaid : Prop := fnExactInversionsOfRow.holds Try.pinned (OpenSpec.ofChange fnExactInversionsOfSpec)

/-- ITS FALSE NEIGHBOUR: 'it returns false'. Refute it at one input. -/
def fnExactInversionsOfWrong : ChangeSpec := { name := "fnExactInversionsOf", fn := fun _ => fun
  | [d] => { results := [.lit (.bool false)], args := [d] }
  | _ => none }
def FnExactInversionsOfWrongFalsely : Prop := fnExactInversionsOfRow.holds Try.pinned (OpenSpec.ofChange fnExactInversionsOfWrong)

/-- 'laws.FnExactInversionPairs': WHATEVER THE INPUT: true; the input reads as it did. -/
def fnExactInversionPairsSpec : ChangeSpec := { name := "fnExactInversionPairs", fn := fun _ => fun
  | [d] => { results := [.lit (.bool true)], args := [d] }
  | _ => none }
def fnExactInversionPairsRow : OpenClaim := { program := "ytochmifhhigfhab", sum := "5bad04d43dc0d571aec23c53a792e835580a17bb5a12c2b5a9bc8a8fd092b357", func := "loop.example/g01115/laws.FnExactInversionPairs", spec := "fnExactInversionPairs", unfollowed := true, recurses := true, apart := false }
def FnExactInversionPairsSaid : Prop := fnExactInversionPairsRow.holds Try.pinned (OpenSpec.ofChange fnExactInversionPairsSpec)

/-- ITS FALSE NEIGHBOUR: 'it returns false'. Refute it at one input. -/
def fnExactInversionPairsWrong : ChangeSpec := { name := "fnExactInversionPairs", fn := fun _ => fun
  | [d] => { results := [.lit (.bool false)], args := [d] }
  | _ => none }
def FnExactInversionPairsWrongFalsely : Prop := fnExactInversionPairsRow.holds Try.pinned (OpenSpec.ofChange fnExactInversionPairsWrong)

/-- 'laws.FnExactCountByInversions': WHATEVER THE INPUT: true; the input reads as it did. -/
def fnExactCountByInversionsSpec : ChangeSpec := { name := "fnExactCountByInversions", fn := fun _ => fun
  | [d] => { results := [.lit (.bool true)], args := [d] }
  | _ => none }
def fnExactCountByInversionsRow : OpenClaim := { program := "ytochmifhhigfhab", sum := "5bad04d43dc0d571aec23c53a792e835580a17bb5a12c2b5a9bc8a8fd092b357", func := "loop.example/g01115/laws.FnExactCountByInversions", spec := "fnExactCountByInversions", unfollowed := true, recurses := true, apart := false }
def FnExactCountByInversionsSaid : Prop := fnExactCountByInversionsRow.holds Try.pinned (OpenSpec.ofChange fnExactCountByInversionsSpec)

/-- ITS FALSE NEIGHBOUR: 'it returns false'. Refute it at one input. -/
def fnExactCountByInversionsWrong : ChangeSpec := { name := "fnExactCountByInversions", fn := fun _ => fun
  | [d] => { results := [.lit (.bool false)], args := [d] }
  | _ => none }
def FnExactCountByInversionsWrongFalsely : Prop := fnExactCountByInversionsRow.holds Try.pinned (OpenSpec.ofChange fnExactCountByInversionsWrong)

/-- 'laws.FnExactRelabelTree': WHATEVER THE INPUT: true; the input reads as it did. -/
def fnExactRelabelTreeSpec : ChangeSpec := { name := "fnExactRelabelTree", fn := fun _ => fun
  | [d1, d2] => { results := [.lit (.bool true)], args := [d1, d2] }
  | _ => none }
def fnExactRelabelTreeRow : OpenClaim := { program := "ytochmifhhigfhab", sum := "5bad04d43dc0d571aec23c53a792e835580a17bb5a12c2b5a9bc8a8fd092b357", func := "loop.example/g01115/laws.FnExactRelabelTree", spec := "fnExactRelabelTree", unfollowed := true, recurses := true, apart := false }
def FnExactRelabelTreeSaid : Prop := fnExactRelabelTreeRow.holds Try.pinned (OpenSpec.ofChange fnExactRelabelTreeSpec)

/-- ITS FALSE NEIGHBOUR: 'it returns false'. Refute it at one input. -/
def fnExactRelabelTreeWrong : ChangeSpec := { name := "fnExactRelabelTree", fn := fun _ => fun
  | [d1, d2] => { results := [.lit (.bool false)], args := [d1, d2] }
  | _ => none }
def FnExactRelabelTreeWrongFalsely : Prop := fnExactRelabelTreeRow.holds Try.pinned (OpenSpec.ofChange fnExactRelabelTreeWrong)

/-- 'laws.FnExactRerootTree': WHATEVER THE INPUT: true; the input reads as it did. -/
def fnExactRerootTreeSpec : ChangeSpec := { name := "fnExactRerootTree", fn := fun _ => fun
  | [d1, d2] => { results := [.lit (.bool true)], args := [d1, d2] }
  | _ => none }
def fnExactRerootTreeRow : OpenClaim := { program := "ytochmifhhigfhab", sum := "5bad04d43dc0d571aec23c53a792e835580a17bb5a12c2b5a9bc8a8fd092b357", func := "loop.example/g01115/laws.FnExactRerootTree", spec := "fnExactRerootTree", unfollowed := true, recurses := true, apart := false }
def FnExactRerootTreeSaid : Prop := fnExactRerootTreeRow.holds Try.pinned (OpenSpec.ofChange fnExactRerootTreeSpec)

/-- ITS FALSE NEIGHBOUR: 'it returns false'. Refute it at one input. -/
def fnExactRerootTreeWrong : ChangeSpec := { name := "fnExactRerootTree", fn := fun _ => fun
  | [d1, d2] => { results := [.lit (.bool false)], args := [d1, d2] }
  | _ => none }
def FnExactRerootTreeWrongFalsely : Prop := fnExactRerootTreeRow.holds Try.pinned (OpenSpec.ofChange fnExactRerootTreeWrong)

/-- 'laws.FnTreesAreWords': WHATEVER THE INPUT: true; the input reads as it did. -/
def fnTreesAreWordsSpec : ChangeSpec := { name := "fnTreesAreWords", fn := fun _ => fun
  | [d1, d2] => { results := [.lit (.bool true)], args := [d1, d2] }
  | _ => none }
def fnTreesAreWordsRow : OpenClaim := { program := "ytochmifhhigfhab", sum := "5bad04d43dc0d571aec23c53a792e835580a17bb5a12c2b5a9bc8a8fd092b357", func := "loop.example/g01115/laws.FnTreesAreWords", spec := "fnTreesAreWords", unfollowed := true, recurses := true, apart := false }
def FnTreesAreWordsSaid : Prop := fnTreesAreWordsRow.holds Try.pinned (OpenSpec.ofChange fnTreesAreWordsSpec)

/-- ITS FALSE NEIGHBOUR: 'it returns false'. Refute it at one input. -/
def fnTreesAreWordsWrong : ChangeSpec := { name := "fnTreesAreWords", fn := fun _ => fun
  | [d1, d2] => { results := [.lit (.bool false)], args := [d1, d2] }
  | _ => none }
def FnTreesAreWordsWrongFalsely : Prop := fnTreesAreWordsRow.holds Try.pinned (OpenSpec.ofChange fnTreesAreWordsWrong)

/-- 'laws.FnTreesListed': WHATEVER THE INPUT: true; the input reads as it did. -/
def fnTreesListedSpec : ChangeSpec := { name := "fnTreesListed", fn := fun _ => fun
  | [d1, d2] => { results := [.lit (.bool true)], args := [d1, d2] }
  | _ => none }
def fnTreesListedRow : OpenClaim := { program := "ytochmifhhigfhab", sum := "5bad04d43dc0d571aec23c53a792e835580a17bb5a12c2b5a9bc8a8fd092b357", func := "loop.example/g01115/laws.FnTreesListed", spec := "fnTreesListed", unfollowed := true, recurses := true, apart := false }
def FnTreesListedSaid : Prop := fnTreesListedRow.holds Try.pinned (OpenSpec.ofChange fnTreesListedSpec)

/-- ITS FALSE NEIGHBOUR: 'it returns false'. Refute it at one input. -/
def fnTreesListedWrong : ChangeSpec := { name := "fnTreesListed", fn := fun _ => fun
  | [d1, d2] => { results := [.lit (.bool false)], args := [d1, d2] }
  | _ => none }
def FnTreesListedWrongFalsely : Prop := fnTreesListedRow.holds Try.pinned (OpenSpec.ofChange fnTreesListedWrong)

/- THE SECOND FORM. 'bulk': how many values and letters a reading holds, each counted each time it is reached (what is shared counts as often as it is met; a slice's spare places count too). A statement '..UptoSaid' is the law's where the arguments, and the package variables that the reading takes, are together of bulk at most 1048576: NARROWER than '..Said'. Prove '..Said' where nothing that the law and all that it calls make is longer than what came in: it says more and counts as full. Else prove '..UptoSaid'. A law counts once. -/
mutual
def uptoBulk {H : Type} : DataW H → Nat
  | .lit (.string bytes) => bytes.length + 1
  | .lit _ => 1
  | .nil => 1
  | .ptr d => uptoBulk d + 1
  | .slice elems spare => uptoBulkAll elems + uptoBulkAll spare + 1
  | .agg parts => uptoBulkAll parts + 1
  | .iface _ d => uptoBulk d + 1
  | .map entries => uptoBulkEntries entries + 1
  | .held _ => 1
def uptoBulkAll {H : Type} : List (DataW H) → Nat
  | [] => 0
  | d :: r => uptoBulk d + uptoBulkAll r
def uptoBulkEntries {H : Type} : List (Lit × DataW H) → Nat
  | [] => 0
  | x :: r => uptoBulkEntry x + uptoBulkEntries r
def uptoBulkEntry {H : Type} : Lit × DataW H → Nat
  | (.string bytes, d) => bytes.length + uptoBulk d + 1
  | (_, d) => uptoBulk d + 1
 end
def uptoSmall : (H : Type) → List (DataW H) → Bool := fun _ ds => decide (uptoBulkAll ds ≤ 1048576)
def OpenSpec.upto (s : _root_.Go.ChangeSpec) : _root_.Go.OpenSpec := { _root_.Go.OpenSpec.ofChange s with cond := some uptoSmall }

/-- 'laws.FnExactInversionsOf', WHERE WHAT IT READS IS OF BULK AT MOST 1048576: true; the input reads as it did. -/
def fnExactInversionsOfUptoRow : OpenClaim := { program := "ytochmifhhigfhab", sum := "5bad04d43dc0d571aec23c53a792e835580a17bb5a12c2b5a9bc8a8fd092b357", func := "loop.example/g01115/laws.FnExactInversionsOf", spec := "fnExactInversionsOf", unfollowed := true, recurses := true, apart := false, narrowed := true }
def FnExactInversionsOfUptoSaid : Prop := fnExactInversionsOfUptoRow.holds Try.pinned (OpenSpec.upto fnExactInversionsOfSpec)

/-- 'laws.FnExactInversionPairs', WHERE WHAT IT READS IS OF BULK AT MOST 1048576: true; the input reads as it did. -/
def fnExactInversionPairsUptoRow : OpenClaim := { program := "ytochmifhhigfhab", sum := "5bad04d43dc0d571aec23c53a792e835580a17bb5a12c2b5a9bc8a8fd092b357", func := "loop.example/g01115/laws.FnExactInversionPairs", spec := "fnExactInversionPairs", unfollowed := true, recurses := true, apart := false, narrowed := true }
def FnExactInversionPairsUptoSaid : Prop := fnExactInversionPairsUptoRow.holds Try.pinned (OpenSpec.upto fnExactInversionPairsSpec)

/-- 'laws.FnExactCountByInversions', WHERE WHAT IT READS IS OF BULK AT MOST 1048576: true; the input reads as it did. -/
def fnExactCountByInversionsUptoRow : OpenClaim := { program := "ytochmifhhigfhab", sum := "5bad04d43dc0d571aec23c53a792e835580a17bb5a12c2b5a9bc8a8fd092b357", func := "loop.example/g01115/laws.FnExactCountByInversions", spec := "fnExactCountByInversions", unfollowed := true, recurses := true, apart := false, narrowed := true }
def FnExactCountByInversionsUptoSaid : Prop := fnExactCountByInversionsUptoRow.holds Try.pinned (OpenSpec.upto fnExactCountByInversionsSpec)

/-- 'laws.FnExactRelabelTree', WHERE WHAT IT READS IS OF BULK AT MOST 1048576: true; the input reads as it did. -/
def fnExactRelabelTreeUptoRow : OpenClaim := { program := "ytochmifhhigfhab", sum := "5bad04d43dc0d571aec23c53a792e835580a17bb5a12c2b5a9bc8a8fd092b357", func := "loop.example/g01115/laws.FnExactRelabelTree", spec := "fnExactRelabelTree", unfollowed := true, recurses := true, apart := false, narrowed := true }
def FnExactRelabelTreeUptoSaid : Prop := fnExactRelabelTreeUptoRow.holds Try.pinned (OpenSpec.upto fnExactRelabelTreeSpec)

/-- 'laws.FnExactRerootTree', WHERE WHAT IT READS IS OF BULK AT MOST 1048576: true; the input reads as it did. -/
def fnExactRerootTreeUptoRow : OpenClaim := { program := "ytochmifhhigfhab", sum := "5bad04d43dc0d571aec23c53a792e835580a17bb5a12c2b5a9bc8a8fd092b357", func := "loop.example/g01115/laws.FnExactRerootTree", spec := "fnExactRerootTree", unfollowed := true, recurses := true, apart := false, narrowed := true }
def FnExactRerootTreeUptoSaid : Prop := fnExactRerootTreeUptoRow.holds Try.pinned (OpenSpec.upto fnExactRerootTreeSpec)

/-- 'laws.FnTreesAreWords', WHERE WHAT IT READS IS OF BULK AT MOST 1048576: true; the input reads as it did. -/
def fnTreesAreWordsUptoRow : OpenClaim := { program := "ytochmifhhigfhab", sum := "5bad04d43dc0d571aec23c53a792e835580a17bb5a12c2b5a9bc8a8fd092b357", func := "loop.example/g01115/laws.FnTreesAreWords", spec := "fnTreesAreWords", unfollowed := true, recurses := true, apart := false, narrowed := true }
def FnTreesAreWordsUptoSaid : Prop := fnTreesAreWordsUptoRow.holds Try.pinned (OpenSpec.upto fnTreesAreWordsSpec)

/-- 'laws.FnTreesListed', WHERE WHAT IT READS IS OF BULK AT MOST 1048576: true; the input reads as it did. -/
def fnTreesListedUptoRow : OpenClaim := { program := "ytochmifhhigfhab", sum := "5bad04d43dc0d571aec23c53a792e835580a17bb5a12c2b5a9bc8a8fd092b357", func := "loop.example/g01115/laws.FnTreesListed", spec := "fnTreesListed", unfollowed := true, recurses := true, apart := false, narrowed := true }
def FnTreesListedUptoSaid : Prop := fnTreesListedUptoRow.holds Try.pinned (OpenSpec.upto fnTreesListedSpec)

end Rows
end Go.Proofs.Ytochmifhhigfhab

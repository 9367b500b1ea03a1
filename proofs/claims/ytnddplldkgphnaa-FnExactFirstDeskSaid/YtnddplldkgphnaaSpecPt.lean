/- The model's functions of tables, by their contracts: used cells, costs, keys. -/
import Derived.Test.YtnddplldkgphnaaSpecPr
import Derived.Test.YtnddplldkgphnaaPut
import Derived.Test.YtnddplldkgphnaaImplRf
namespace Go.Proofs.Ytnddplldkgphnaa
open Go.RowKit

/-- The used cells, if it is a table. -/
def usedOf (cs : List Int) : List Int × Bool := if tblB cs then (usedL cs, true) else ([], false)
theorem usedOf_yes {cs : List Int} (h : tblB cs = true) : usedOf cs = (usedL cs, true) := if_pos h
theorem usedOf_no {cs : List Int} (h : tblB cs = false) : usedOf cs = ([], false) := if_neg (by simp [h])

theorem keys_none {cs : List Int} {k : Nat} (h : nth cs k = -1) : insSort (coll (isUsed cs) (fun c => nth cs c) (k + 1)) = insSort (coll (isUsed cs) (fun c => nth cs c) k) := by rw [coll_no (isUsed_not.2 h)]
theorem Tb.keys_next {cs : List Int} (ht : Tb cs) {k : Nat} (hk : k < cs.length) (h : nth cs k ≠ -1) : putL (insSort (coll (isUsed cs) (fun c => nth cs c) k)) (nth cs k) = insSort (coll (isUsed cs) (fun c => nth cs c) (k + 1)) :=
  put_next (f := fun c => nth cs c) (isUsed_iff.2 h) fun c hc hp e => by
    have := ht.one c k (by omega) hk e (isUsed_iff.1 hp)
    omega

theorem used_count (cs : List Int) {k : Nat} (hk : k < cs.length) : usedN (cs.take (k + 1)) = usedN (cs.take k) + if nth cs k = -1 then 0 else 1 := by
  rw [take_succ_nth hk]
  unfold usedN
  rw [List.countP_append]
  by_cases e : nth cs k = -1 <;> simp [e]
/-- Where a key is, or -1. -/
def placeI (cs : List Int) (key : Int) : Int := if key ∈ cs then (findL cs key : Int) else -1
theorem placeI_yes {cs : List Int} {key : Int} (h : key ∈ cs) : placeI cs key = (findL cs key : Int) := if_pos h
theorem placeI_no {cs : List Int} {key : Int} (h : key ∉ cs) : placeI cs key = -1 := if_neg h
end Go.Proofs.Ytnddplldkgphnaa

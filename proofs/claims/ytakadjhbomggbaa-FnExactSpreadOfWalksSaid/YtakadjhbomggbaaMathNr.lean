/- Neighbours as the model lists them. -/
import Derived.Test.YtakadjhbomggbaaMathPr
import Derived.Test.YtakadjhbomggbaaMathPu
namespace Go.Proofs.Ytakadjhbomggbaa
open Go.RowKit

/-- The neighbours, behind the first k nodes. -/
def nearTo (ps : List Int) (v : Int) : Nat → List Int
  | 0 => if v = 0 then [] else [par ps v]
  | k + 1 => if nth ps k = v then putL (nearTo ps v k) ((k : Int) + 1) else nearTo ps v k
def nearP (ps : List Int) (v : Int) : List Int := nearTo ps v ps.length
theorem length_nearTo (ps : List Int) (v : Int) : ∀ k, (nearTo ps v k).length ≤ k + 1
  | 0 => by simp only [nearTo]; split <;> simp
  | k + 1 => by
    have ih := length_nearTo ps v k
    simp only [nearTo]
    split
    · have := length_putL (nearTo ps v k) ((k : Int) + 1); omega
    · omega
theorem nearTo_perm {ps : List Int} {n : Nat} (ht : Tree ps n) {v : Int} (h1 : 0 ≤ v) (h2 : v ≤ n) : ∀ k, k ≤ n → (nearTo ps v k).Perm ((if v = 0 then [] else [par ps v]) ++ nodesTo ps v k)
  | 0, _ => by simp [nearTo, nodesTo_zero]
  | k + 1, hk => by
    have ih := nearTo_perm ht h1 h2 k (by omega)
    by_cases e : nth ps k = v
    · rw [nodesTo_yes e]
      simp only [nearTo, if_pos e]
      have hp : par ps ((k : Int) + 1) = v := by unfold par; rw [show ((k : Int) + 1).toNat - 1 = k by omega]; exact e
      have hd := ht.dep_par (v := (k : Int) + 1) (by omega) (by omega)
      rw [hp] at hd
      have hn : ((k : Int) + 1) ∉ nearTo ps v k := fun hm => by
        rw [ih.mem_iff, List.mem_append] at hm
        rcases hm with hm | hm
        · by_cases e0 : v = 0
          · simp [e0] at hm
          · simp [e0] at hm
            have hd2 := ht.dep_par (v := v) (by omega) h2
            rw [← hm] at hd2
            omega
        · obtain ⟨i, h3, _, h4⟩ := mem_nodesTo.1 hm
          omega
      refine (putL_perm hn).trans ((ih.cons _).trans ?_)
      rw [← List.append_assoc]
      exact (List.perm_append_singleton _ _).symm
    · rw [nodesTo_no e]
      simp only [nearTo, if_neg e]
      exact ih
theorem nearP_perm {ps : List Int} {n : Nat} (ht : Tree ps n) {v : Int} (h1 : 0 ≤ v) (h2 : v ≤ n) : (nearP ps v).Perm (near ps v) := by
  unfold nearP near nodesW
  rw [ht.len]
  exact nearTo_perm ht h1 h2 n (Nat.le_refl _)
theorem length_nearP {ps : List Int} {n v : Nat} (ht : Tree ps n) (h2 : v ≤ n) : (nearP ps v).length = deg ps v := by
  rw [(nearP_perm ht (by omega) (by omega)).length_eq, length_near]
theorem leftP {ps g : List Int} {n k v : Nat} (ht : Tree ps n) (hg : Gone ps g k) (h1 : 1 ≤ v) (h2 : v ≤ n) :
    (hasB g v = false ∧ (leftL (nearP ps v) g).length = 1) ↔ lf ps g v = true := by
  rw [lf_iff, hasB_not]
  have hp : (leftL (nearP ps v) g).Perm (leftL (near ps v) g) := (nearP_perm ht (by omega) (by omega)).filter _
  constructor
  · rintro ⟨h3, h4⟩
    have := (left_near ht hg h1 h2 h3).2
    rw [← hp.length_eq] at this
    exact ⟨h3, by omega⟩
  · rintro ⟨h3, h4⟩
    have := (left_near ht hg h1 h2 h3).2
    rw [← hp.length_eq] at this
    exact ⟨h3, by omega⟩
theorem leftP_one {ps g : List Int} {n k v : Nat} (ht : Tree ps n) (hg : Gone ps g k) (h1 : 1 ≤ v) (h2 : v ≤ n) (h : lf ps g v = true) : leftL (nearP ps v) g = [par ps v] := by
  have h3 := (lf_iff.1 h).1
  have hl := ((leftP ht hg h1 h2).2 h).2
  have hp : (leftL (nearP ps v) g).Perm (leftL (near ps v) g) := (nearP_perm ht (by omega) (by omega)).filter _
  have hm : par ps v ∈ leftL (nearP ps v) g := by
    rw [hp.mem_iff, (left_near ht hg h1 h2 h3).1]; simp
  match he : leftL (nearP ps v) g, hl, hm with
  | [y], _, hm => simp at hm; rw [hm]
theorem length_leftL (xs g : List Int) : (leftL xs g).length ≤ xs.length := List.length_filter_le _ _
theorem leftL_succ {xs g : List Int} {k : Nat} (h : k < xs.length) : leftL (xs.take (k + 1)) g = leftL (xs.take k) g ++ if hasB g (nth xs k) = true then [] else [nth xs k] := by
  unfold leftL
  rw [take_succ_nth h, List.filter_append]
  congr 1
  by_cases e : hasB g (nth xs k) = true <;> simp [e]
end Go.Proofs.Ytakadjhbomggbaa

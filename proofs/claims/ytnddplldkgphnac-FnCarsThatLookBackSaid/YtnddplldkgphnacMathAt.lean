/- All lists of few numbers, in order. -/
import Derived.Test.YtnddplldkgphnacMathL
import Derived.Test.YtnddplldkgphnacMathLl
namespace Go.Proofs.Ytnddplldkgphnac
open Go.RowKit

/-- All lists of n numbers less than n. -/
def allTried (n : Nat) : List (List Int) := lex (List.replicate n 0) (List.replicate n ((n : Int) - 1))

theorem nth_rep {n i : Nat} {x : Int} (h : i < n) : nth (List.replicate n x) i = x := by simp [nth, h]
theorem tried_seq {n : Nat} (hn : 1 ≤ n) : SeqTo (fun ys => stepC ys (List.replicate n 0) (List.replicate n ((n : Int) - 1))) (List.replicate n 0) (allTried n) (List.replicate n 0, true) :=
  lex_ne _ _ (fun i hi => by
    simp at hi
    rw [nth_rep hi, nth_rep hi]
    omega) (by simp)
theorem length_lexRep (n : Nat) (hn : 1 ≤ n) : ∀ k, (lex (List.replicate k 0) (List.replicate k ((n : Int) - 1))).length = n ^ k
  | 0 => by simp [lex]
  | k + 1 => by
    rw [List.replicate_succ, List.replicate_succ, length_lex_cons, length_lexRep n hn k, Nat.pow_succ, Nat.mul_comm]
    congr 1
    unfold span
    omega
theorem length_allTried {n : Nat} (hn : 1 ≤ n) : (allTried n).length = n ^ n := length_lexRep n hn n


theorem upFrom_mem {x : Int} : ∀ {k : Nat} {l : Int}, x ∈ upFrom l k → l ≤ x ∧ x < l + k
  | 0, _, h => by simp [upFrom] at h
  | k + 1, l, h => by
    rw [upFrom, List.mem_cons] at h
    rcases h with rfl | h
    · omega
    · have := upFrom_mem h; omega
theorem lexRep_mem {n : Nat} {zs : List Int} : ∀ {k : Nat}, zs ∈ lex (List.replicate k 0) (List.replicate k ((n : Int) - 1)) → zs.length = k ∧ ∀ x ∈ zs, 0 ≤ x ∧ x ≤ (n : Int) - 1 := by
  intro k
  induction k generalizing zs with
  | zero => intro h; simp [lex] at h; subst h; simp
  | succ k ih =>
    intro h
    rw [List.replicate_succ, List.replicate_succ, lex, List.mem_flatMap] at h
    obtain ⟨x, hx, h⟩ := h
    rw [List.mem_map] at h
    obtain ⟨ys, hy, rfl⟩ := h
    obtain ⟨h1, h2⟩ := ih hy
    have h3 := upFrom_mem hx
    unfold span at h3
    refine ⟨by simp [h1], fun z hz => ?_⟩
    rw [List.mem_cons] at hz
    rcases hz with rfl | hz
    · omega
    · exact h2 z hz
theorem tried_get {n k : Nat} (hn : 1 ≤ n) (hk : k < n ^ n) : (allTried n).getD k [] ∈ allTried n := by
  have h := length_allTried hn
  have hk' : k < (allTried n).length := by omega
  rw [List.getD_eq_getElem?_getD, List.getElem?_eq_getElem hk']
  exact List.getElem_mem hk'
/-- What is known of one of them. -/
theorem tried_good {n k : Nat} (hn : 1 ≤ n) (hn5 : n ≤ 5) (hk : k < n ^ n) : ((allTried n).getD k []).length = n ∧ good ((allTried n).getD k []) n = true := by
  obtain ⟨h1, h2⟩ := lexRep_mem (n := n) (k := n) (tried_get hn hk)
  exact ⟨h1, good_iff.2 ⟨by omega, by omega, h2⟩⟩

/-- How many of the first k lists meet a test. -/
def cntTo (f : List Int → Bool) (L : List (List Int)) (k : Nat) : Nat := (L.take k).countP f
theorem cntTo_succ {f : List Int → Bool} {L : List (List Int)} {k : Nat} (h : k < L.length) : cntTo f L (k + 1) = cntTo f L k + if f (L.getD k []) = true then 1 else 0 := by
  unfold cntTo
  rw [List.take_succ_eq_append_getElem h, List.countP_append]
  have : L.getD k [] = L[k] := by simp [h]
  rw [this]
  simp [List.countP_cons]
theorem cntTo_le (f : List Int → Bool) (L : List (List Int)) (k : Nat) : cntTo f L k ≤ k := by
  unfold cntTo
  exact Nat.le_trans List.countP_le_length (by simp; omega)

/-- Do all cars park that look back so many places? -/
def backOk (n m : Nat) (l : List Int) : Bool := !hasB (backs n m l) (-1)
def countBackOf (n k : Int) : Int × Bool := if inB n 1 5 && inB k 0 8 then ((cntTo (backOk n.toNat k.toNat) (allTried n.toNat) (n.toNat ^ n.toNat) : Int), true) else (0, false)
end Go.Proofs.Ytnddplldkgphnac

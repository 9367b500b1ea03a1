/- Which Orders and Fars tell regions. -/
import Derived.Test.YtakadjhbomggbabMathO
namespace Go.Proofs.Ytakadjhbomggbab
open Go.RowKit

/-- The number of Far at the place before. -/
def lastF (fs : List Int) (k : Nat) : Int := if k = 0 then 0 else nth fs (k - 1)
/-- What is asked of the number at a place. -/
def stepB (os fs : List Int) (k : Nat) : Bool := inB (nth fs k) (lastF fs k) k && !(decide (lastF fs k < nth fs k) && decide (nth os k < nth os (nth fs k - 1).toNat))
def farTo (os fs : List Int) : Nat → Bool
  | 0 => true
  | k + 1 => farTo os fs k && stepB os fs k
def regB (os fs : List Int) : Bool := outB os && decide (fs.length = os.length) && farTo os fs fs.length
theorem farTo_no {os fs : List Int} {k : Nat} (h : stepB os fs k = false) : ∀ n, k < n → farTo os fs n = false
  | 0, hk => by omega
  | n + 1, hk => by
    by_cases e : k = n
    · subst e; simp [farTo, h]
    · rw [farTo, farTo_no h n (by omega)]; rfl
theorem farTo_yes {os fs : List Int} {k : Nat} (h : farTo os fs k = true) (h' : stepB os fs k = true) : farTo os fs (k + 1) = true := by rw [farTo, h, h']; rfl
theorem farTo_at {os fs : List Int} : ∀ {n : Nat}, farTo os fs n = true → ∀ k, k < n → stepB os fs k = true
  | 0, _, k, hk => by omega
  | n + 1, h, k, hk => by
    rw [farTo, Bool.and_eq_true] at h
    by_cases e : k = n
    · subst e; exact h.2
    · exact farTo_at h.1 k (by omega)
theorem stepB_iff {os fs : List Int} {k : Nat} : stepB os fs k = true ↔ lastF fs k ≤ nth fs k ∧ nth fs k ≤ k ∧ ¬ (lastF fs k < nth fs k ∧ nth os k < nth os (nth fs k - 1).toNat) := by
  simp only [stepB, Bool.and_eq_true, inB_iff, Bool.not_eq_true', Bool.and_eq_false_iff, decide_eq_false_iff_not]
  constructor
  · rintro ⟨⟨h1, h2⟩, h3⟩
    exact ⟨h1, h2, fun ⟨a, b⟩ => by rcases h3 with h3 | h3; exact h3 a; exact h3 b⟩
  · rintro ⟨h1, h2, h3⟩
    refine ⟨⟨h1, h2⟩, ?_⟩
    by_cases e : lastF fs k < nth fs k
    · exact .inr fun h => h3 ⟨e, h⟩
    · exact .inl e
theorem lastF_succ (fs : List Int) (k : Nat) : lastF fs (k + 1) = nth fs k := by simp [lastF]
theorem lastF_bounds {os fs : List Int} : ∀ {k : Nat}, farTo os fs k = true → 0 ≤ lastF fs k ∧ lastF fs k ≤ k
  | 0, _ => by simp [lastF]
  | k + 1, h => by
    rw [farTo, Bool.and_eq_true] at h
    have ih := lastF_bounds h.1
    have := stepB_iff.1 h.2
    rw [lastF_succ]
    omega
theorem reg_no1 {os fs : List Int} (h : outB os = false) : regB os fs = false := by simp [regB, h]
theorem reg_no2 {os fs : List Int} {n m : Nat} (h1 : os.length = n) (h2 : fs.length = m) (h : ¬ m = n) : regB os fs = false := by
  have : ¬ fs.length = os.length := by omega
  simp [regB, this]
theorem reg_no3 {os fs : List Int} {n k : Nat} (h2 : fs.length = n) (hk : k < n) (h : stepB os fs k = false) : regB os fs = false := by
  rw [regB, farTo_no h fs.length (by omega)]; simp
theorem reg_yes {os fs : List Int} {n : Nat} (h1 : os.length = n) (h2 : fs.length = n) (ho : outB os = true) (h : farTo os fs n = true) : regB os fs = true := by
  rw [regB, ho, h2, h, h1]; simp
theorem reg_iff {os fs : List Int} : regB os fs = true ↔ outB os = true ∧ fs.length = os.length ∧ farTo os fs fs.length = true := by
  simp [regB, and_assoc]
end Go.Proofs.Ytakadjhbomggbab

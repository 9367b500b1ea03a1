/- The model's parking function with a rank, the next one, and counts by first favourites, by their contracts. -/
import Derived.Test.YtakadjhbomggbaaGreatSpecR
import Derived.Test.YtakadjhbomggbaaGreatMathX
namespace Go.Proofs.YtakadjhbomggbaaGreat
open Go.RowKit

/-- What is left to choose behind p, at r. -/
def AtLeft (n R : Nat) (p : List Int) (k r : Nat) : Prop := r < N p n ∧ toI (atL n n [] R) = p ++ toI (atL n (n - k) p r)
theorem atLeft_first {n R : Nat} (hn : n ≤ 8) (hR : R < cnt n) : AtLeft n R [] 0 R := ⟨by rw [N_nil hn]; exact hR, by simp⟩
theorem atLeft_step {n R k r x ρ : Nat} {p : List Int} (h : AtLeft n R p k r) (hk : k < n) (hp : p.length = k) (h1 : r = rkAtP p n x + ρ) (h2 : ρ < N (p ++ [(x : Int)]) n) : AtLeft n R (p ++ [(x : Int)]) (k + 1) ρ := by
  refine ⟨h2, ?_⟩
  rw [h.2, show n - k = (n - (k + 1)) + 1 by omega, at_step ⟨h1, h2⟩ (by omega) h.1, snoc_toI]
theorem atLeft_room {n R k r y ρ : Nat} {p : List Int} (h : AtLeft n R p k r) (hk : k < n) (hp : p.length = k) (h1 : r = rkAtP p n y + ρ) : y < n := by
  have h2 := h.1
  rw [N_split (by omega)] at h2
  apply Classical.byContradiction
  intro hn
  have := sumTo_mono (fun y => N (p ++ [(y : Int)]) n) (show n ≤ y by omega)
  unfold rkAtP at h1
  omega

theorem atOf_yes {n R : Nat} (hn : n ≤ 8) (hR : R < cnt n) : atOf n R = (toI (atL n n [] R), true) := by
  have h1 : inB (n : Int) 0 8 = true := inB_iff.2 ⟨by omega, by omega⟩
  have h2 : inB (R : Int) 0 ((cnt n : Int) - 1) = true := inB_iff.2 ⟨by omega, by omega⟩
  simp only [atOf, Int.toNat_natCast, h1, h2, Bool.and_true, if_true]
theorem atOf_no1 {n r : Int} (h : ¬ inB n 0 8 = true) : atOf n r = ([], false) := by simp [atOf, h]
theorem atOf_no2 {n : Nat} {r : Int} (h : ¬ inB r 0 ((cnt n : Int) - 1) = true) : atOf n r = ([], false) := by simp [atOf, h]

theorem nextOf_yes {xs : List Int} {n : Nat} (h : isPark xs = true) (hn : xs.length = n) : nextOf xs = atOf n ((rkTo xs n n : Int) + 1) := by
  rw [rkTo_all hn]
  subst hn
  simp [nextOf, h]
theorem nextOf_no {xs : List Int} (h : ¬ isPark xs = true) : nextOf xs = ([], false) := by simp [nextOf, h]

/-- One number, written out. -/
theorem has_lit1 (w : World) (y : Int) : Has (w.alloc (.cells #[.int .i64 y] 3)) (some ⟨w.heap.size, 0, none⟩) 1 1 [y] := by
  refine ⟨rfl, Nat.le_refl _, by unfold maxLen; omega, by omega, fun _ => ⟨_, _, rfl, by simp, fun i hi => ?_⟩⟩
  obtain rfl : i = 0 := by omega
  rw [World.cell?_alloc_at _ _ _ _ rfl]
  rfl
theorem one_nonneg (k : Nat) : ∀ i, i < 1 → 0 ≤ nth [(k : Int)] i := fun i hi => by
  obtain rfl : i = 0 := by omega
  simp [nth]
/-- How many begin with each of the first k numbers. -/
def firsts (n k : Nat) : List Int := (List.range k).map fun (x : Nat) => (N [(x : Int)] n : Int)
theorem firsts_succ (n k : Nat) : firsts n (k + 1) = firsts n k ++ [(N [(k : Int)] n : Int)] := by simp [firsts, List.range_succ]
theorem firstOf_yes {n : Nat} (h : inB (n : Int) 1 8 = true) : firstOf n = (firsts n n, true) := by simp [firstOf, h, firsts]
theorem firstOf_no {n : Int} (h : ¬ inB n 1 8 = true) : firstOf n = ([], false) := by simp [firstOf, h]

end Go.Proofs.YtakadjhbomggbaaGreat

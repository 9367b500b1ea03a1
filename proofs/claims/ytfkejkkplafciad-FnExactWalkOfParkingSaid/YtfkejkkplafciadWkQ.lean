/- Chapter 4: lists of pairs, functions of heights, by their contracts. -/
import Derived.Test.YtfkejkkplafciadWkP
import Derived.Test.YtfkejkkplafciadWkB
import Derived.Test.YtfkejkkplafciadSpecC
import Derived.Test.YtfkejkkplafciadImplC
namespace Go.Proofs.Ytfkejkkplafciad
open Go.RowKit


theorem run_up {hs : List Int} {k : Nat} (h : nth hs (k + 1) = nth hs k + 1) : runAt hs (k + 1 + 1) = runAt hs (k + 1) + 1 := by simp [runAt, raisedB, h]
theorem run_flat {hs : List Int} {k : Nat} (h : ¬ nth hs (k + 1) = nth hs k + 1) : runAt hs (k + 1 + 1) = 1 := by simp [runAt, raisedB, h]
theorem run_one (hs : List Int) : runAt hs 1 = 1 := by simp [runAt, raisedB]
theorem cl_step (hs : List Int) (k : Nat) {r : Int} (h : runAt hs (k + 1) = r) : clTo hs (k + 1) = clTo hs k * ((k : Int) + 1) / r := by simp only [clTo]; rw [h]

theorem bnext_loop {hs : List Int} {n k i : Nat} (hl : hs.length = n) (hk : k ≤ i) (hi : i < n) : below (((startsL hs).drop k).take (i + 1 - k)) ((k : Int) + 1) = below (((startsL hs).drop k).take (i - k)) ((k : Int) + 1) + if (i : Int) - nth hs i ≤ (k : Int) then 1 else 0 := by
  subst hl
  have hlen : (startsL hs).length = hs.length := by unfold startsL; rw [length_startsTo]
  rw [show i + 1 - k = (i - k) + 1 by omega, below_succ (by rw [List.length_drop, hlen]; omega)]
  have e : nth ((startsL hs).drop k) (i - k) = (i : Int) - nth hs i := by
    have : nth ((startsL hs).drop k) (i - k) = nth (startsL hs) (k + (i - k)) := by simp [nth]
    rw [this, show k + (i - k) = i by omega]
    exact nth_startsTo hi
  rw [e]
  by_cases h : (i : Int) - nth hs i ≤ (k : Int)
  · rw [if_pos h, if_pos (by omega)]
  · rw [if_neg h, if_neg (by omega)]
theorem bnext_full {hs : List Int} {n k : Nat} (hl : hs.length = n) : k + below (((startsL hs).drop k).take (n - k)) ((k : Int) + 1) = bnext hs k := by
  subst hl
  unfold bnext
  rw [List.take_of_length_le]
  rw [List.length_drop]
  unfold startsL
  rw [length_startsTo]
  exact Nat.le_refl _
theorem bnext_facts {hs : List Int} {n k : Nat} (hg : hgtB hs = true) (hl : hs.length = n) (hk : k < n) : k < bnext hs k ∧ bnext hs k ≤ n := by
  subst hl
  exact ⟨bnext_gt hg hk, bnext_le (by omega)⟩
theorem bnc_step {hs : List Int} {n f k : Nat} (hl : hs.length = n) (hk : k < n) : bncF hs (f + 1) k = (n - bnext hs k) + bncF hs f (bnext hs k) := by subst hl; exact bncF_step hk
theorem bnc_end {hs : List Int} {n f k : Nat} (hl : hs.length = n) (hk : ¬ k < n) : bncF hs f k = 0 := by subst hl; exact bncF_end hk
theorem bounce_le {hs : List Int} {n : Nat} (hl : hs.length = n) (h8 : n ≤ 8) : bncF hs n 0 ≤ 64 := by
  have := bncF_le (hs := hs) (by omega) n 0
  omega

end Go.Proofs.Ytfkejkkplafciad

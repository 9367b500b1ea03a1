/- How many nodes are below. -/
import Derived.Test.YtakadjhbomggbaaMathTr
namespace Go.Proofs.Ytakadjhbomggbaa
open Go.RowKit

/-- How often a node is above one of the first k nodes. -/
def belC (xs : List Int) : Nat → Nat → Nat
  | 0, _ => 0
  | k + 1, v => belC xs k v + (abv xs ((k : Int) + 1)).count (v : Int)
def belL (xs : List Int) : List Int := (List.range (xs.length + 1)).map fun (v : Nat) => (belC xs xs.length v : Int)
def belOf (xs : List Int) : List Int × Bool := if treeB xs then (belL xs, true) else ([], false)
theorem length_belL (xs : List Int) : (belL xs).length = xs.length + 1 := by simp [belL]
theorem nth_belL {xs : List Int} {v : Nat} (h : v ≤ xs.length) : nth (belL xs) v = (belC xs xs.length v : Int) := by simp [nth, belL, show v < xs.length + 1 by omega]
/-- The numbers, behind the first k nodes and q of what is above the next one. -/
structure BelAt (xs ys : List Int) (m k q : Nat) : Prop where
  len : xs.length < m ∧ ys.length = m
  val : ∀ v : Nat, v < m → nth ys v = ((belC xs k v + (upTo xs ((k : Int) + 1) q).count (v : Int) : Nat) : Int)
  small : ∀ v : Nat, v < m → nth ys v ≤ ((8 * k + q : Nat) : Int)
theorem belAt_zero {xs : List Int} {m : Nat} (h : xs.length < m) : BelAt xs (List.replicate m 0) m 0 0 :=
  ⟨⟨h, by simp⟩, fun v _ => by rw [nth_replicate0']; simp [belC, upTo], fun v _ => by rw [nth_replicate0']; omega⟩
theorem belAt_pos {xs ys : List Int} {m k q : Nat} (h : BelAt xs ys m k q) {v : Nat} (hv : v < m) : 0 ≤ nth ys v := by
  rw [h.val v hv]; omega
theorem belAt_step {xs ys : List Int} {m k q u : Nat} (h : BelAt xs ys m k q) (hu : u < m) (hx : up xs ((k : Int) + 1) (q + 1) = (u : Int)) : BelAt xs (ys.set u (nth ys u + 1)) m k (q + 1) := by
  have hc : ∀ v : Nat, (upTo xs ((k : Int) + 1) (q + 1)).count (v : Int) = (upTo xs ((k : Int) + 1) q).count (v : Int) + if u = v then 1 else 0 := fun v => by
    rw [upTo_succ, List.count_append, hx]
    congr 1
    by_cases e : u = v
    · subst e; simp
    · have : ¬ (u : Int) = (v : Int) := by omega
      simp [e, this]
  refine ⟨⟨h.len.1, by simp [h.len.2]⟩, fun v hv => ?_, fun v hv => ?_⟩
  · rw [nth_set (by rw [h.len.2]; exact hu), hc v]
    by_cases e : u = v
    · subst e; rw [if_pos rfl, if_pos rfl, h.val u hv]; omega
    · rw [if_neg e, if_neg e, h.val v hv]; omega
  · rw [nth_set (by rw [h.len.2]; exact hu)]
    have h1 := h.small u hu
    have h2 := h.small v hv
    split <;> omega
theorem belAt_next {xs ys : List Int} {m k q : Nat} (h : BelAt xs ys m k q) (hq : q ≤ 8) (hd : dep xs ((k : Int) + 1) = q) : BelAt xs ys m (k + 1) 0 := by
  refine ⟨h.len, fun v hv => ?_, fun v hv => ?_⟩
  · rw [h.val v hv]
    have e : abv xs ((k : Int) + 1) = upTo xs ((k : Int) + 1) q := by unfold abv; rw [hd]
    simp only [belC, e]
    simp [upTo]
  · have := h.small v hv
    omega
theorem belAt_all {xs ys : List Int} {m : Nat} (h : BelAt xs ys m xs.length 0) : ys.take (xs.length + 1) = belL xs :=
  ext_nth (by rw [List.length_take, h.len.2, length_belL]; have := h.len.1; omega) fun v hv => by
    rw [List.length_take, h.len.2] at hv
    have hl := h.len.1
    rw [nth_take (by omega), h.val v (by omega), nth_belL (by omega)]
    simp [upTo]
end Go.Proofs.Ytakadjhbomggbaa

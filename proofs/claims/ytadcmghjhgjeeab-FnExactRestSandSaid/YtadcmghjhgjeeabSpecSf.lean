/- The model's topplings, sums and settled sand, by contract. -/
import Derived.Test.YtadcmghjhgjeeabSpecSe
namespace Go.Proofs.Ytadcmghjhgjeeab
open Go.RowKit

theorem topple_yes {xs : List Int} {t n : Nat} (hl : xs.length = n) (h1 : sandB xs = true) (h2 : t < n) (h3 : (n : Int) ≤ nth xs t) (h4 : sandB (topL xs t) = true) : toppleOf xs (t : Int) = (topL xs t, true) := by
  subst hl
  unfold toppleOf
  rw [if_pos]
  · rw [Int.toNat_natCast]
  · simp [h1, h2, h3, h4]
theorem topple_no {xs : List Int} {i : Int} (h : ¬ (sandB xs = true ∧ 0 ≤ i ∧ i < (xs.length : Int) ∧ (xs.length : Int) ≤ nth xs i.toNat ∧ sandB (topL xs i.toNat) = true)) : toppleOf xs i = ([], false) := by
  unfold toppleOf
  rw [if_neg]
  simp only [Bool.and_eq_true, decide_eq_true_eq]
  exact fun e => h ⟨e.1.1.1.1, e.1.1.1.2, e.1.1.2, e.1.2, e.2⟩

/-- The sum of two lists of grains. -/
structure SumS (xs ys : List Int) (n : Nat) : Prop where
  pile : Pile (plusL xs ys)
  tot : total (plusL xs ys) ≤ 4000
  len : (plusL xs ys).length = n
theorem sumS {xs ys : List Int} {n : Nat} (hx : xs.length = n) (hy : ys.length = n) (h : sandB xs = true) (h' : sandB ys = true) : SumS xs ys n := by
  have hl : xs.length = ys.length := by omega
  refine ⟨pile_plus (Pile.sand h) (Pile.sand h') hl, ?_, by rw [length_plusL hl]; exact hx⟩
  rw [total_plus hl]
  have := sand_tot h
  have := sand_tot h'
  omega
theorem both_wide {xs ys : List Int} {n : Nat} (hx : ∀ i, i < n → 0 ≤ nth xs i ∧ nth xs i ≤ 5000) (hy : ∀ i, i < n → 0 ≤ nth ys i ∧ nth ys i ≤ 5000) : ∀ i, i < n → 0 ≤ nth xs i ∧ nth xs i ≤ 5000 ∧ 0 ≤ nth ys i ∧ nth ys i ≤ 5000 := fun i hi => ⟨(hx i hi).1, (hx i hi).2, hy i hi⟩

theorem add_yes {xs ys : List Int} (h1 : sandB xs = true) (h2 : sandB ys = true) (h3 : xs.length = ys.length) : addOf xs ys = ((settle (plusL xs ys)).1, true) := by
  unfold addOf
  rw [if_pos]
  rw [h1, h2, decide_eq_true h3]
  rfl
theorem add_no {xs ys : List Int} (h : ¬ (sandB xs = true ∧ sandB ys = true ∧ xs.length = ys.length)) : addOf xs ys = ([], false) := by
  unfold addOf
  rw [if_neg]
  intro e
  rw [Bool.and_eq_true, Bool.and_eq_true, decide_eq_true_eq] at e
  exact h ⟨e.1.1, e.1.2, e.2⟩
/-- Two slices of the call's own, apart, and a bool. -/
def PostTwo (w : World) (r : List Int × List Int × Bool) (e : Ending) (w' : World) : Prop :=
  ∃ a n c b m d, e = .returned (.tuple #[.slice a n c, .slice b m d, .bool r.2.2]) ∧ Own w' w.heap.size a n c r.1 ∧ Own w' w.heap.size b m d r.2.1 ∧ Apart a b ∧ Below w.heap.size w w'
theorem postTwo {w w' : World} {r : List Int × List Int × Bool} {xs ys : List Int} {ok : Bool} {a b : Option Addr} {n c m d : Nat} (hr : r = (xs, ys, ok)) (h : Own w' w.heap.size a n c xs) (h' : Own w' w.heap.size b m d ys) (hap : Apart a b) (hb : Below w.heap.size w w') :
    PostTwo w r (.returned (.tuple #[.slice a n c, .slice b m d, .bool ok])) w' := by subst hr; exact ⟨_, _, _, _, _, _, rfl, h, h', hap, hb⟩
theorem postTwo_no {w w' : World} {r : List Int × List Int × Bool} (hr : r = ([], [], false)) (hb : Below w.heap.size w w') : PostTwo w r (.returned (.tuple #[.slice none 0 0, .slice none 0 0, .bool false])) w' :=
  postTwo hr (Own.nil _ _) (Own.nil _ _) (Apart.noneL _) hb

theorem bump_take {is t : List Int} {k : Nat} (h : k < is.length) : bump t (is.take (k + 1)) = (bump t (is.take k)).set (nth is k).toNat (nth (bump t (is.take k)) (nth is k).toNat + 1) := by
  rw [take_succ_nth h, bump_snoc]
/-- The topplings so far: what a round of counting wants. -/
structure Tally (os : List Int) (n : Nat) : Prop where
  rng : ∀ k, k < os.length → ∃ t : Nat, nth os k = (t : Int) ∧ t < n
  small : os.length ≤ 4000
theorem tally {cs : List Int} {n : Nat} (hl : cs.length = n) (hp : Pile cs) (ht : total cs ≤ 4000) : Tally (settle cs).2 n := by
  have S := settled hp
  refine ⟨fun k hk => ?_, by have := S.cnt; omega⟩
  have := S.ord _ (nth_mem hk)
  exact ⟨(nth (settle cs).2 k).toNat, by omega, by omega⟩
theorem tally_bound {os : List Int} {n k t : Nat} (hs : os.length ≤ 4000) : 0 ≤ nth (bump (List.replicate n 0) (os.take k)) t ∧ nth (bump (List.replicate n 0) (os.take k)) t ≤ 4000 := by
  have hb := bump_bounds (os.take k) (List.replicate n 0) 0 (fun x hx => by obtain ⟨-, rfl⟩ := List.mem_replicate.1 hx; omega) (by omega)
  by_cases e : t < n
  · have := hb _ (nth_mem (xs := bump (List.replicate n 0) (os.take k)) (i := t) (by simpa using e))
    rw [List.length_take] at this
    omega
  · have : nth (bump (List.replicate n 0) (os.take k)) t = 0 := by simp [nth, Nat.not_lt.1 e]
    omega

end Go.Proofs.Ytadcmghjhgjeeab

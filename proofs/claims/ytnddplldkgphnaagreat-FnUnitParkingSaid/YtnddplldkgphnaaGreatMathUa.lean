/- Chapter 9: distances on longer streets; unit parking functions. -/
import Derived.Test.YtnddplldkgphnaaGreatMathP
namespace Go.Proofs.YtnddplldkgphnaaGreat
open Go.RowKit

/-! ### Distances on a longer street -/
theorem place_longer {p q : Int} {out : List Int} {x : Int} (hx : x ≤ p) (hpq : p ≤ q) (h : place p out x ≠ -1) : place q out x = place p out x := by
  rcases place_spec (out := out) (p := p) _ x hx rfl with ⟨e, _⟩ | ⟨a1, a2, a3, a4⟩
  · exact absurd e h
  · exact place_is a1 (by omega) a3 a4
theorem drive_longer {p q : Int} {xs : List Int} (hb : ∀ x ∈ xs, 0 ≤ x ∧ x ≤ p - 1) (hq : p ≤ q) (ha : allPark p xs = true) : ∀ k, k ≤ xs.length → drive q (xs.take k) = drive p (xs.take k)
  | 0, _ => by simp [drive]
  | k + 1, hk => by
    have h1 := drive_longer hb hq ha k (by omega)
    rw [drive_succ (by omega), drive_succ (by omega), h1]
    have hbk := hb _ (nth_mem (show k < xs.length by omega))
    have hne : place p (drive p (xs.take k)) (nth xs k) ≠ -1 := by
      intro e
      refine allPark_iff.1 ha ?_
      rw [← e]
      refine drive_take_mem (k + 1) ?_
      rw [drive_succ (by omega)]
      simp
    rw [place_longer (by omega) hq hne]
theorem dists_longer {p q : Int} {xs : List Int} (hb : ∀ x ∈ xs, 0 ≤ x ∧ x ≤ p - 1) (hq : p ≤ q) (ha : allPark p xs = true) : dists q xs = dists p xs := by
  have := drive_longer hb hq ha xs.length (Nat.le_refl _)
  rw [List.take_length] at this
  unfold dists
  rw [this]
theorem park_longer {p q : Int} {xs : List Int} (hb : ∀ x ∈ xs, 0 ≤ x ∧ x ≤ p - 1) (hq : p ≤ q) (ha : allPark p xs = true) : allPark q xs = true := by
  have := drive_longer hb hq ha xs.length (Nat.le_refl _)
  rw [List.take_length] at this
  rw [allPark_iff] at ha ⊢
  rw [this]
  exact ha
theorem dists_ge {p : Int} {xs : List Int} (hb : ∀ x ∈ xs, 0 ≤ x ∧ x ≤ p - 1) (ha : allPark p xs = true) : ∀ y ∈ dists p xs, 0 ≤ y ∧ y < p := by
  intro y hy
  obtain ⟨k, hk, rfl⟩ := mem_nth hy
  rw [length_dists] at hk
  rw [nth_dists hk]
  have hbk := hb _ (nth_mem hk)
  have h1 := drive_get (p := p) hk
  have hm : nth (drive p xs) k ∈ drive p xs := nth_mem (by rw [length_drive]; exact hk)
  have h2 := drive_bounds hb ha _ hm
  have h3 := (place_bounds (p := p) (out := drive p (xs.take k)) hbk.1).2.2
  omega
def greatL (ys : List Int) : Int := ys.foldl max 0
theorem fmax_ge : ∀ (bs : List Int) (m : Int), m ≤ bs.foldl max m ∧ ∀ b ∈ bs, b ≤ bs.foldl max m
  | [], m => by simp
  | c :: bs, m => by
    obtain ⟨h1, h2⟩ := fmax_ge bs (max m c)
    refine ⟨by simp only [List.foldl_cons]; omega, fun b hb => ?_⟩
    simp only [List.foldl_cons]
    rcases List.mem_cons.1 hb with rfl | hb
    · omega
    · exact h2 b hb
theorem fmax_mem : ∀ (bs : List Int) (m : Int), bs.foldl max m = m ∨ bs.foldl max m ∈ bs
  | [], m => by simp
  | c :: bs, m => by
    simp only [List.foldl_cons]
    rcases fmax_mem bs (max m c) with h | h
    · rw [h]
      rcases Int.le_total m c with h1 | h1
      · right; rw [Int.max_eq_right h1]; exact List.mem_cons_self ..
      · left; exact Int.max_eq_left h1
    · exact .inr (List.mem_cons_of_mem _ h)
theorem great_le {ys : List Int} {m : Int} (h0 : ∀ y ∈ ys, 0 ≤ y) (hm : 0 ≤ m) : decide (greatL ys ≤ m) = allB ys 0 m := by
  rw [Bool.eq_iff_iff, decide_eq_true_eq, allB_iff]
  constructor
  · intro h y hy
    exact ⟨h0 y hy, Int.le_trans ((fmax_ge ys 0).2 y hy) h⟩
  · intro h
    rcases fmax_mem ys 0 with e | e
    · unfold greatL; omega
    · exact (h _ e).2
theorem great_succ {ys : List Int} {k : Nat} (h : k < ys.length) : greatL (ys.take (k + 1)) = max (greatL (ys.take k)) (nth ys k) := by
  unfold greatL
  rw [take_succ_nth h, List.foldl_append]
  rfl
def unitB (xs : List Int) (m : Int) : Bool := allB (dists xs.length xs) 0 m
def isUnitOf (xs : List Int) (m : Int) : Bool × Bool := if isPark xs && inB m 0 8 then (unitB xs m, true) else (false, false)
theorem park_good {xs : List Int} (h : isPark xs = true) : good xs 12 = true ∧ allPark 12 xs = true ∧ dists 12 xs = dists xs.length xs := by
  obtain ⟨h1, h2, h3⟩ := isPark_iff.1 h
  exact ⟨good_iff.2 ⟨by omega, h1, fun x hx => by have := h2 x hx; omega⟩, park_longer h2 (by omega) h3, dists_longer h2 (by omega) h3⟩
theorem unit_great {xs : List Int} {m : Int} (h : isPark xs = true) (hm : 0 ≤ m) : decide (greatL (dists 12 xs) ≤ m) = unitB xs m := by
  obtain ⟨g1, g2, g3⟩ := park_good h
  obtain ⟨h1, h2, h3⟩ := isPark_iff.1 h
  rw [great_le (fun y hy => (dists_ge (fun x hx => by have := h2 x hx; omega) g2 y hy).1) hm, g3]
  rfl

end Go.Proofs.YtnddplldkgphnaaGreat

/- Total distances of parking functions, and how many have each. -/
import Derived.Test.YtkkhlkaieohklabGreatMathC
import Derived.Test.YtkkhlkaieohklabGreatMathR
import Derived.Test.YtkkhlkaieohklabGreatMathX
namespace Go.Proofs.YtkkhlkaieohklabGreat
open Go.RowKit

/-- The total distance: the places are those from 0 on. -/
def tot (xs : List Int) : Int := total (upto xs.length) - total xs
theorem upto_succ (n : Nat) : upto (n + 1) = upto n ++ [(n : Int)] := by simp [upto, List.range_succ]
theorem drive_upto {xs : List Int} (h : isPark xs = true) : total (drive xs.length xs) = total (upto xs.length) := by
  obtain ⟨h1, h2, h3⟩ := isPark_iff.1 h
  have hnd := drive_nodup h2 h3
  have hbd := drive_bounds h2 h3
  have hl := length_drive (xs.length : Int) xs
  refine total_perm ?_
  have hd2 : (upto xs.length).Nodup := by
    unfold upto List.Nodup
    rw [List.pairwise_map]
    exact List.nodup_range.imp fun h e => h (by omega)
  rw [List.perm_ext_iff_of_nodup hnd hd2]
  intro z
  unfold upto
  rw [List.mem_map]
  constructor
  · intro hz
    have := hbd z hz
    exact ⟨z.toNat, by rw [List.mem_range]; omega, by omega⟩
  · rintro ⟨i, hi, rfl⟩
    rw [List.mem_range] at hi
    apply Classical.byContradiction
    intro hz
    have := nodup_le xs.length ((i : Int) :: drive xs.length xs) (List.nodup_cons.2 ⟨hz, hnd⟩) (fun x hx => by
      rcases List.mem_cons.1 hx with rfl | hx
      · omega
      · exact hbd x hx)
    simp at this
    omega
theorem dists_tot {xs : List Int} (h : isPark xs = true) : total (dists xs.length xs) = tot xs := by
  rw [total_dists, drive_upto h]
  rfl
theorem total_nonneg {ys : List Int} (h : ∀ y ∈ ys, 0 ≤ y) : 0 ≤ total ys := by
  have : ∀ (ys : List Int) (c : Int), 0 ≤ c → (∀ y ∈ ys, 0 ≤ y) → 0 ≤ ys.foldl (· + ·) c := by
    intro ys
    induction ys with
    | nil => intro c hc _; exact hc
    | cons y ys ih =>
      intro c hc hy
      have := hy y (by simp)
      exact ih (c + y) (by omega) fun z hz => hy z (by simp [hz])
  exact this ys 0 (Int.le_refl _) h
theorem dists_nonneg {xs : List Int} (h : isPark xs = true) : ∀ y ∈ dists xs.length xs, 0 ≤ y := by
  obtain ⟨h1, h2, h3⟩ := isPark_iff.1 h
  intro y hy
  obtain ⟨i, hi, rfl⟩ := mem_nth hy
  rw [length_dists] at hi
  rw [nth_dists hi]
  have := (car_at hi h2 h3).1
  omega
/-- The greatest total distance. -/
def mostD (n : Nat) : Nat := n * (n - 1) / 2
theorem total_upto' (n : Nat) : total (upto n) = (mostD n : Int) := by
  have h := total_upto n
  unfold mostD
  cases n with
  | zero => rfl
  | succ n =>
    rw [show ((n + 1 : Nat) : Int) - 1 = (n : Int) by omega, ← Int.natCast_mul] at h
    rw [Nat.add_sub_cancel]
    omega
theorem tot_bounds {xs : List Int} (h : isPark xs = true) : 0 ≤ tot xs ∧ tot xs < ((mostD xs.length + 1 : Nat) : Int) := by
  have h1 := dists_tot h
  have h2 := total_nonneg (dists_nonneg h)
  have h3 := total_nonneg fun x hx => ((isPark_bounds h).2 x hx).1
  have h4 := total_upto' xs.length
  unfold tot at *
  omega
/-- A parking function with a total distance. -/
def wit (n : Nat) (s : Int) : List Int := (List.range n).map fun (i : Nat) => max 0 (min (i : Int) (s - (i : Int) * ((i : Int) - 1) / 2))
theorem wits : ∀ n, n < 6 → ∀ d, d < mostD n + 1 → isPark (wit n ((mostD n : Int) - (d : Int))) = true ∧ tot (wit n ((mostD n : Int) - (d : Int))) = (d : Int) ∧ (wit n ((mostD n : Int) - (d : Int))).length = n := by decide +kernel
theorem mem_list {xs : List Int} {n : Nat} (h : isPark xs = true) (hn : xs.length = n) : xs ∈ listL n n [] := by
  obtain ⟨h8, hb⟩ := isPark_bounds h
  subst hn
  have hz := (isPark_zpark h8 fun x hx => (hb x hx).1).1 h
  have e := toI_toN (xs := xs) fun x hx => (hb x hx).1
  have hlt : ∀ x ∈ toN xs, x < xs.length := fun x hx => by
    obtain ⟨y, hy, rfl⟩ := List.mem_map.1 hx
    have := hb y hy
    omega
  have h1 := rk_lt (n := xs.length) (toN xs) [] (by simp [length_toN]) hlt (by rw [e]; simpa using hz)
  have h2 := at_rk (n := xs.length) (toN xs) [] (by simp [length_toN]) hlt (by rw [e]; simpa using hz)
  rw [length_toN] at h2
  rw [list_at xs.length [] (by simp), List.mem_map]
  exact ⟨rk xs.length [] (toN xs), by rw [List.mem_range]; exact h1, by rw [h2, e]; rfl⟩
/-- The total distances of all. -/
def tots (n : Nat) : List Int := (listL n n []).map tot
theorem list_parks {n : Nat} (h8 : n ≤ 8) {xs : List Int} (h : xs ∈ listL n n []) : isPark xs = true ∧ xs.length = n := by
  obtain ⟨_, _, _, hp⟩ := all_chain h8
  obtain ⟨i, hi, e⟩ := List.getElem_of_mem h
  have := hp i hi
  simpa [hi, e] using this
theorem tots_bounds {n : Nat} (h8 : n ≤ 8) : ∀ t ∈ tots n, 0 ≤ t ∧ t < ((mostD n + 1 : Nat) : Int) := by
  intro t ht
  obtain ⟨xs, hx, rfl⟩ := List.mem_map.1 ht
  obtain ⟨h1, h2⟩ := list_parks h8 hx
  have := tot_bounds h1
  rw [h2] at this
  exact this
/-- How many have each total distance. -/
def distCounts (n : Nat) : List Int := (List.range (mostD n + 1)).map fun (d : Nat) => occ (tots n) d
theorem runs_dist {n : Nat} (h5 : n ≤ 5) : runsTo (insSort (tots n)) (tots n).length = distCounts n := by
  have hperm := insSort_perm (tots n)
  have h1 := runs_all (s := insSort (tots n)) (m := mostD n + 1) (insSort_sorted _) (fun x hx => tots_bounds (by omega) x (hperm.mem_iff.1 hx))
  rw [length_insSort, occs_perm hperm] at h1
  rw [h1]
  refine occs_full fun v hv => ?_
  obtain ⟨w1, w2, w3⟩ := wits n (by omega) v hv
  exact List.mem_map.2 ⟨_, mem_list w1 w3, w2⟩
def distOfN (n : Int) : List Int × Bool := if inB n 0 5 then (distCounts n.toNat, true) else ([], false)
theorem distOfN_yes {n : Nat} (h : inB (n : Int) 0 5 = true) : distOfN n = (distCounts n, true) := by simp [distOfN, h]
theorem distOfN_no {n : Int} (h : ¬ inB n 0 5 = true) : distOfN n = ([], false) := by simp [distOfN, h]
theorem mostD_small {n : Nat} (h : n ≤ 5) : mostD n ≤ 10 := by
  have : ∀ n, n < 6 → mostD n ≤ 10 := by decide
  exact this n (by omega)
end Go.Proofs.YtkkhlkaieohklabGreat

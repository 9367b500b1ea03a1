/- The parking function behind one, found car by car, is that of the next rank; all of them, one behind the other. -/
import Derived.Test.YtakadjhbomggbaaGreatMathN
namespace Go.Proofs.YtakadjhbomggbaaGreat
open Go.RowKit

/-- The one behind a list, looked for from a car down: its favourite is made greater, zeros behind it. -/
def cand (xs : List Int) (c : Nat) : List Int := xs.take c ++ (nth xs c + 1) :: List.replicate (xs.length - (c + 1)) 0
def nextP (xs : List Int) : Nat → List Int × Bool
  | 0 => ([], false)
  | c + 1 => if isPark (cand xs c) then (cand xs c, true) else nextP xs c
theorem length_cand {xs : List Int} {c : Nat} (h : c < xs.length) : (cand xs c).length = xs.length := by
  simp [cand]
  omega
theorem take_snoc_nat {r : List Nat} {c : Nat} (h : c < r.length) : r = r.take c ++ r[c] :: r.drop (c + 1) := by
  rw [← List.drop_eq_getElem_cons h, List.take_append_drop]
theorem isPark_bounds {xs : List Int} (h : isPark xs = true) : xs.length ≤ 8 ∧ ∀ x ∈ xs, 0 ≤ x ∧ x ≤ (xs.length : Int) - 1 := ⟨(isPark_iff.1 h).1, (isPark_iff.1 h).2.1⟩
theorem nth_toI {r : List Nat} {c : Nat} (h : c < r.length) : nth (toI r) c = (r[c] : Int) := by simp [nth, toI, h]
theorem take_toI (r : List Nat) (c : Nat) : (toI r).take c = toI (r.take c) := by simp [toI]
/-- Whether a candidate parks is told by its beginning. -/
theorem cand_park {r : List Nat} {c : Nat} (hc : c < r.length) (h8 : r.length ≤ 8) : isPark (cand (toI r) c) = true ↔ zpark (toI (r.take c) ++ [((r[c] : Nat) : Int) + 1]) r.length := by
  have hl : (cand (toI r) c).length = r.length := by rw [length_cand (by rw [length_toI]; exact hc), length_toI]
  have hz : ∀ x ∈ cand (toI r) c, 0 ≤ x := by
    intro x hx
    simp only [cand, nth_toI hc, take_toI, List.mem_append, List.mem_cons, List.mem_replicate] at hx
    rcases hx with hx | rfl | ⟨_, rfl⟩
    · obtain ⟨y, _, rfl⟩ := List.mem_map.1 hx
      omega
    · omega
    · omega
  rw [isPark_zpark (by omega) hz, hl]
  have hq : (toI (r.take c) ++ [((r[c] : Nat) : Int) + 1]).length = c + 1 := by simp [length_toI]; omega
  have := zpark_zeros (p := toI (r.take c) ++ [((r[c] : Nat) : Int) + 1]) (n := r.length) (by omega)
  rw [← this, hq]
  simp [cand, nth_toI hc, take_toI, length_toI]
theorem toN_toI (r : List Nat) : toN (toI r) = r := by
  unfold toN toI
  rw [List.map_map]
  conv => rhs; rw [← List.map_id r]
  exact List.map_congr_left fun x _ => by simp
theorem cand_toN {r : List Nat} {c : Nat} (hc : c < r.length) : cand (toI r) c = toI (r.take c ++ (r[c] + 1) :: List.replicate (r.drop (c + 1)).length 0) := by
  unfold cand
  rw [nth_toI hc, take_toI, toI_append, toI_cons, length_toI]
  simp [toI]
/-- What the search finds is what has the next rank. -/
theorem nextP_at {r : List Nat} (hp : isPark (toI r) = true) : ∀ c, c ≤ r.length → (∀ i, i < r.length → c ≤ i → ¬ isPark (cand (toI r) i) = true) → nextP (toI r) c = atOf r.length ((rk r.length [] r : Int) + 1)
  | 0, _, hn => by
    have h8 : r.length ≤ 8 := by have := (isPark_bounds hp).1; rwa [length_toI] at this
    have hb := (isPark_bounds hp).2
    have hz := (isPark_zpark (by rw [length_toI]; exact h8) (fun x hx => (hb x hx).1)).1 hp
    rw [length_toI] at hz
    have hx : ∀ x ∈ r, x < r.length := by
      intro x hx
      have := hb x (List.mem_map.2 ⟨x, hx, rfl⟩)
      rw [length_toI] at this
      omega
    have := rk_last r [] (by simp) hx (by simpa using hz) (fun i hi => by
      have := hn i hi (Nat.zero_le _)
      rw [cand_park hi h8] at this
      simpa using this)
    rw [N_nil h8] at this
    have h1 : inB ((rk r.length [] r : Int) + 1) 0 ((cnt (r.length : Int).toNat : Int) - 1) = false := by
      rw [inB_not]
      right
      simp
      omega
    simp only [nextP, atOf, h1, Bool.and_false]
    rfl
  | c + 1, hc, hn => by
    have h8 : r.length ≤ 8 := by have := (isPark_bounds hp).1; rwa [length_toI] at this
    have hb := (isPark_bounds hp).2
    have hz := (isPark_zpark (by rw [length_toI]; exact h8) (fun x hx => (hb x hx).1)).1 hp
    rw [length_toI] at hz
    have hx : ∀ x ∈ r, x < r.length := by
      intro x hx
      have := hb x (List.mem_map.2 ⟨x, hx, rfl⟩)
      rw [length_toI] at this
      omega
    have hlt : c < r.length := by omega
    simp only [nextP]
    by_cases hk : isPark (cand (toI r) c) = true
    · rw [if_pos hk]
      have hspl := take_snoc_nat hlt
      have hlen : (r.take c).length + (1 + (r.drop (c + 1)).length) = r.length := by simp; omega
      have hcn := cand_toN hlt
      have hq : (r.take c ++ (r[c] + 1) :: List.replicate (r.drop (c + 1)).length 0).length = r.length := by simp; omega
      have hr : rk r.length [] (r.take c ++ (r[c] + 1) :: List.replicate (r.drop (c + 1)).length 0) = rk r.length [] r + 1 := by
        have := rk_next (n := r.length) (t := r.take c) (r := r.drop (c + 1)) (x := r[c]) hlen (by rw [← hspl]; exact hx) (by rw [← hspl]; exact hz) (fun i hi => by
          have hi' : c + 1 + i < r.length := by simp at hi; omega
          have := hn (c + 1 + i) hi' (by omega)
          rw [cand_park hi' h8] at this
          have e1 : r.take c ++ r[c] :: (r.drop (c + 1)).take i = r.take (c + 1 + i) := by
            have e2 : (r.take c ++ r[c] :: r.drop (c + 1)).take (c + 1 + i) = r.take c ++ r[c] :: (r.drop (c + 1)).take i := by
              rw [List.take_append, show (c + 1 + i) - (r.take c).length = i + 1 by simp; omega, List.take_succ_cons, List.take_of_length_le (by simp; omega)]
            rw [← e2, ← hspl]
          rw [e1]
          simpa using this)
        rw [← hspl] at this
        exact this
      rw [hcn] at hk ⊢
      have hb2 := (isPark_bounds hk).2
      have hz2 := (isPark_zpark (by rw [length_toI, hq]; exact h8) (fun x hx => (hb2 x hx).1)).1 hk
      rw [length_toI, hq] at hz2
      generalize r.take c ++ (r[c] + 1) :: List.replicate (r.drop (c + 1)).length 0 = q at *
      have hx2 : ∀ x ∈ q, x < r.length := by
        intro x hx
        have := hb2 x (List.mem_map.2 ⟨x, hx, rfl⟩)
        rw [length_toI, hq] at this
        omega
      have hlt2 := rk_lt q [] (by simpa using hq) hx2 (by simpa using hz2)
      rw [N_nil h8, hr] at hlt2
      have hat := at_rk q [] (by simpa using hq) hx2 (by simpa using hz2)
      rw [hq, hr] at hat
      have h1 : inB (r.length : Int) 0 8 = true := inB_iff.2 ⟨by omega, by omega⟩
      have h2 : inB ((rk r.length [] r : Int) + 1) 0 ((cnt (r.length : Int).toNat : Int) - 1) = true := inB_iff.2 ⟨by omega, by simp; omega⟩
      simp only [atOf, h1, h2, Bool.and_true]
      simp only [if_true, Int.toNat_natCast]
      rw [show ((rk r.length [] r : Int) + 1).toNat = rk r.length [] r + 1 by omega, hat]
    · rw [if_neg hk]
      refine nextP_at hp c (by omega) fun i hi hci => ?_
      by_cases e : i = c
      · subst e; exact hk
      · exact hn i hi (by omega)
theorem nextP_eq {xs : List Int} (h : isPark xs = true) : nextP xs xs.length = nextOf xs := by
  have hb := (isPark_bounds h).2
  obtain ⟨r, rfl⟩ : ∃ r, xs = toI r := ⟨toN xs, (toI_toN fun x hx => (hb x hx).1).symm⟩
  have := nextP_at h r.length (Nat.le_refl _) (fun i hi hc => by omega)
  simp only [nextOf, if_pos h, toN_toI]
  rw [length_toI]
  exact this
/-- One list after the other. -/
def Chain (f : List Int → List Int × Bool) (L : List (List Int)) : Prop := 0 < L.length ∧ (∀ k, k + 1 < L.length → f (L.getD k []) = (L.getD (k + 1) [], true)) ∧ f (L.getD (L.length - 1) []) = ([], false)
theorem all_chain {n : Nat} (h8 : n ≤ 8) : Chain nextOf (listL n n []) ∧ (listL n n []).getD 0 [] = List.replicate n 0 ∧ (listL n n []).length = cnt n ∧ ∀ k, k < (listL n n []).length → isPark ((listL n n []).getD k []) = true ∧ ((listL n n []).getD k []).length = n := by
  have hL := list_at (n := n) n [] (by simp)
  simp only [List.nil_append] at hL
  have hN := N_nil h8
  have hc := cnt_le h8
  have hlen : (listL n n []).length = cnt n := by rw [hL, List.length_map, List.length_range, hN]
  have hget : ∀ k, k < cnt n → (listL n n []).getD k [] = toI (atL n n [] k) := by
    intro k hk
    rw [hL, hN]
    simp [hk]
  have hat : ∀ k, k < cnt n → rk n [] (atL n n [] k) = k ∧ isPark (toI (atL n n [] k)) = true ∧ (toI (atL n n [] k)).length = n := by
    intro k hk
    obtain ⟨a, b, c⟩ := rk_at (n := n) n [] k (by simp) (by rw [hN]; exact hk)
    have hl : (toI (atL n n [] k)).length = n := by rw [length_toI, length_atL]
    refine ⟨a, ?_, hl⟩
    rw [isPark_zpark (by omega) (fun x hx => by obtain ⟨y, _, rfl⟩ := List.mem_map.1 hx; omega), hl]
    simpa using c
  have hnx : ∀ k, k < cnt n → nextOf (toI (atL n n [] k)) = atOf n ((k : Int) + 1) := by
    intro k hk
    obtain ⟨a, b, c⟩ := hat k hk
    simp only [nextOf, if_pos b, toN_toI, c, a]
  have h1 : inB (n : Int) 0 8 = true := inB_iff.2 ⟨by omega, by omega⟩
  refine ⟨⟨by omega, fun k hk => ?_, ?_⟩, ?_, hlen, fun k hk => ?_⟩
  · rw [hlen] at hk
    rw [hget k (by omega), hget (k + 1) hk, hnx k (by omega)]
    have h2 : inB ((k : Int) + 1) 0 ((cnt (n : Int).toNat : Int) - 1) = true := inB_iff.2 ⟨by omega, by simp; omega⟩
    simp only [Int.toNat_natCast] at h2
    simp only [atOf, Int.toNat_natCast, h1, h2, Bool.and_true, if_true]
    rw [show ((k : Int) + 1).toNat = k + 1 by omega]
  · rw [hlen, hget _ (by omega), hnx _ (by omega)]
    have h2 : inB (((cnt n - 1 : Nat) : Int) + 1) 0 ((cnt (n : Int).toNat : Int) - 1) = false := by
      rw [inB_not]
      right
      simp
      omega
    simp only [atOf, h2, Bool.and_false]
    rfl
  · rw [hget 0 (by omega)]
    have hz : zpark (toI (List.replicate n 0)) n := by
      intro i hi
      have hb := below_zeros [] n i
      simp only [List.nil_append] at hb
      simp only [toI, List.map_replicate]
      rw [show ((0 : Nat) : Int) = 0 from rfl, hb]
      simp [below]
      omega
    have h3 := at_rk (n := n) (List.replicate n 0) [] (by simp) (fun x hx => by
      have := List.mem_replicate.1 hx
      omega) (by simpa using hz)
    rw [rk_zeros, List.length_replicate] at h3
    rw [h3]
    simp [toI]
  · rw [hlen] at hk
    rw [hget k hk]
    exact (hat k hk).2
end Go.Proofs.YtakadjhbomggbaaGreat

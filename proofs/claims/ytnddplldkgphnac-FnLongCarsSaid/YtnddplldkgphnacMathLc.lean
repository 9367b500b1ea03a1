/- Long cars that all park: each on places of its own. -/
import Derived.Test.YtnddplldkgphnacMathLl
namespace Go.Proofs.Ytnddplldkgphnac
open Go.RowKit

theorem longAt_yes {p : Int} {xs ls : List Int} {k : Nat} (h : (longAt p xs ls (k + 1)).2.2 = true) :
    (longAt p xs ls k).2.2 = true ∧ 0 ≤ place p (longAt p xs ls k).2.1 (nth xs k) ∧ fits (longAt p xs ls k).2.1 p (place p (longAt p xs ls k).2.1 (nth xs k)) (nth ls k).toNat = true ∧
      longAt p xs ls (k + 1) = ((longAt p xs ls k).1 ++ [place p (longAt p xs ls k).2.1 (nth xs k)], (longAt p xs ls k).2.1 ++ cover (place p (longAt p xs ls k).2.1 (nth xs k)) (nth ls k).toNat, true) := by
  have h1 : (longAt p xs ls k).2.2 = true := by
    cases e : (longAt p xs ls k).2.2 with
    | true => rfl
    | false => rw [longAt_stays e, e] at h; exact absurd h (by simp)
  by_cases e : 0 ≤ place p (longAt p xs ls k).2.1 (nth xs k) ∧ fits (longAt p xs ls k).2.1 p (place p (longAt p xs ls k).2.1 (nth xs k)) (nth ls k).toNat = true
  · exact ⟨h1, e.1, e.2, longAt_go (by rw [← h1]) rfl e.1 e.2⟩
  · rw [longAt_stop (out := (longAt p xs ls k).1) (T := (longAt p xs ls k).2.1) (by rw [← h1]) e] at h
    exact absurd h (by simp)
theorem longAt_pre {p : Int} {xs ls : List Int} {n : Nat} (h : (longAt p xs ls n).2.2 = true) : ∀ d k, k + d = n → (longAt p xs ls k).2.2 = true ∧ (longAt p xs ls n).1.take k = (longAt p xs ls k).1
  | 0, k, e => by
    obtain rfl : k = n := by omega
    refine ⟨h, List.take_of_length_le ?_⟩
    rw [(longAt_facts p xs ls k).2.1 h]; exact Nat.le_refl _
  | d + 1, k, e => by
    obtain ⟨h1, h2⟩ := longAt_pre h d (k + 1) (by omega)
    obtain ⟨g1, g2, g3, g4⟩ := longAt_yes h1
    refine ⟨g1, ?_⟩
    have hl := (longAt_facts p xs ls k).2.1 g1
    have : ((longAt p xs ls n).1.take (k + 1)).take k = (longAt p xs ls k).1 := by
      rw [h2, g4]
      simp only
      rw [List.take_append_of_le_length (by omega), List.take_of_length_le (by omega)]
    rwa [List.take_take, Nat.min_eq_left (by omega)] at this
theorem fits_at {T : List Int} {p y : Int} : ∀ {L : Nat}, fits T p y L = true → ∀ z, y ≤ z → z < y + L → z < p ∧ hasB T z = false
  | 0, _, z, h1, h2 => by omega
  | L + 1, h, z, h1, h2 => by
    rw [fits, Bool.and_eq_true, Bool.and_eq_true, decide_eq_true_iff, Bool.not_eq_true'] at h
    by_cases e : z = y + (L : Int)
    · subst e; exact h.2
    · exact fits_at h.1 z h1 (by omega)
theorem cover_free {T : List Int} {x q : Int} {d : Nat} (h : hasB T q = false) (hq : q = x + d) : hasB (T ++ cover x d) q = false := by
  rw [hasB_cover (by omega), h]
theorem cover_next (T : List Int) (x d i : Nat) : hasB (T ++ cover (x : Int) (d + 1)) (i : Int) = if i = x + d then true else hasB (T ++ cover (x : Int) d) (i : Int) := by
  by_cases e : i = x + d
  · rw [if_pos e, hasB_covered (by omega)]
  · rw [if_neg e]
    by_cases e2 : x ≤ i ∧ i < x + d
    · rw [hasB_covered (by omega), hasB_covered (by omega)]
    · rw [hasB_cover (by omega), hasB_cover (by omega)]
def shortB (ls : List Int) : Nat → Bool
  | 0 => true
  | k + 1 => shortB ls k && decide (nth ls k = 1)
theorem short_at {ls : List Int} : ∀ {k : Nat}, shortB ls k = true → ∀ i, i < k → nth ls i = 1
  | 0, _, i, hi => by omega
  | k + 1, h, i, hi => by
    rw [shortB, Bool.and_eq_true, decide_eq_true_iff] at h
    by_cases e : i = k
    · subst e; exact h.2
    · exact short_at h.1 i (by omega)
/-- All that the law asks of long cars that park. -/
structure LongF (xs ls : List Int) (n P : Nat) (O : List Int) (T : Nat → List Int) : Prop where
  len : ls.length = n
  lenO : O.length = n
  n8 : n ≤ 8
  P1 : 1 ≤ P
  P12 : P ≤ 12
  tot : total ls = (P : Int)
  T0 : T 0 = []
  Ts : ∀ k, k < n → T (k + 1) = T k ++ cover (nth O k) (nth ls k).toNat
  fav : ∀ k, k < n → 0 ≤ nth xs k ∧ nth xs k ≤ nth O k
  ln : ∀ k, k < n → 1 ≤ nth ls k ∧ nth O k + nth ls k ≤ (P : Int)
  free : ∀ k, k < n → ∀ z, nth O k ≤ z → z < nth O k + nth ls k → hasB (T k) z = false
  short : shortB ls n = true → driveCars xs (P : Int) = (O, true)
theorem long_facts {xs ls : List Int} {n : Nat} (hn : xs.length = n) (ht : taskB xs ls = true) (hok : longOk xs ls = true) : ∃ (P : Nat) (T : Nat → List Int), LongF xs ls n P (longN xs ls) T := by
  subst hn
  have ht0 := ht
  unfold taskB at ht
  obtain ⟨hl, ht⟩ := Bool.and_eq_true_iff.1 ht
  obtain ⟨hxl, hxs⟩ := Bool.and_eq_true_iff.1 ht
  have hxl := of_decide_eq_true hxl
  obtain ⟨⟨l1, l8⟩, lb, lt⟩ := lenB_iff.1 hl
  have hge := total_ge (fun x hx => (lb x hx).1) ls.length (Nat.le_refl _)
  rw [List.take_of_length_le (Nat.le_refl _)] at hge
  obtain ⟨P, hP⟩ : ∃ P : Nat, total ls = (P : Int) := ⟨(total ls).toNat, by omega⟩
  have hbx := allB_iff.1 hxs
  unfold longOk at hok
  have hpre := longAt_pre hok
  have hle := (longAt_facts (total ls) xs ls xs.length).2.1 hok
  have hst : ∀ k, k < xs.length → 0 ≤ place (total ls) (longAt (total ls) xs ls k).2.1 (nth xs k) ∧ fits (longAt (total ls) xs ls k).2.1 (total ls) (place (total ls) (longAt (total ls) xs ls k).2.1 (nth xs k)) (nth ls k).toNat = true ∧
      longAt (total ls) xs ls (k + 1) = ((longAt (total ls) xs ls k).1 ++ [place (total ls) (longAt (total ls) xs ls k).2.1 (nth xs k)], (longAt (total ls) xs ls k).2.1 ++ cover (place (total ls) (longAt (total ls) xs ls k).2.1 (nth xs k)) (nth ls k).toNat, true) := fun k hk =>
    (longAt_yes (hpre (xs.length - (k + 1)) (k + 1) (by omega)).1).2
  have hO : ∀ k, k < xs.length → nth (longN xs ls) k = place (total ls) (longAt (total ls) xs ls k).2.1 (nth xs k) := fun k hk => by
    have h1 := (hpre (xs.length - (k + 1)) (k + 1) (by omega)).2
    have h2 := (hpre (xs.length - k) k (by omega)).1
    have h3 := (longAt_facts (total ls) xs ls k).2.1 h2
    have : nth ((longAt (total ls) xs ls xs.length).1.take (k + 1)) k = nth (longN xs ls) k := by rw [nth_take (by omega)]; rfl
    rw [← this, h1, (hst k hk).2.2]
    conv => lhs; rw [← h3]
    rw [show (longAt (total ls) xs ls k).1.length = k from h3]
    have := nth_append_at (xs := (longAt (total ls) xs ls k).1) (y := place (total ls) (longAt (total ls) xs ls k).2.1 (nth xs k))
    rwa [h3] at this
  have hx0 : ∀ k, k < xs.length → 0 ≤ nth xs k ∧ nth xs k ≤ total ls - 1 := fun k hk => hbx _ (nth_mem hk)
  have hl1 : ∀ k, k < xs.length → 1 ≤ nth ls k ∧ nth ls k ≤ 12 := fun k hk => lb _ (nth_mem (by omega))
  refine ⟨P, fun k => (longAt (total ls) xs ls k).2.1, by omega, hle, by omega, by omega, by omega, hP, rfl, fun k hk => ?_, fun k hk => ⟨(hx0 k hk).1, ?_⟩, fun k hk => ⟨(hl1 k hk).1, ?_⟩, fun k hk z z1 z2 => ?_, fun hs => ?_⟩
  · rw [hO k hk, (hst k hk).2.2]
  · rw [hO k hk]
    have := (place_new (p := total ls) (out := (longAt (total ls) xs ls k).2.1) (x := nth xs k) (by have := hx0 k hk; omega))
    have := (hst k hk).1
    omega
  · rw [hO k hk]
    have h1 := hl1 k hk
    have := fits_at (hst k hk).2.1 (place (total ls) (longAt (total ls) xs ls k).2.1 (nth xs k) + (nth ls k - 1)) (by omega) (by omega)
    omega
  · rw [hO k hk] at z1 z2
    have h1 := hl1 k hk
    exact (fits_at (hst k hk).2.1 z z1 (by omega)).2
  · have h1 := short_at hs
    have hd : ∀ k, k ≤ xs.length → longAt (total ls) xs ls k = (drive (total ls) (xs.take k), drive (total ls) (xs.take k), true) := by
      intro k
      induction k with
      | zero => intro _; rfl
      | succ k ih =>
        intro hk
        have e := ih (by omega)
        have h2 := (hst k (by omega)).2.2
        rw [e] at h2
        rw [h2, drive_succ (by omega), h1 k (by omega)]
        simp [cover]
    have hd' := hd xs.length (Nat.le_refl _)
    rw [List.take_of_length_le (Nat.le_refl _)] at hd'
    have hg : good xs (P : Int) = true := good_iff.2 ⟨by omega, by omega, fun x hx => by have := hbx x hx; omega⟩
    have hno : allPark (P : Int) xs = true := by
      rw [allPark_iff]
      intro hm
      rw [← hP] at hm
      have := (longAt_facts (total ls) xs ls xs.length).1 (-1) (by rw [hd']; exact hm)
      omega
    unfold driveCars
    rw [hg, hno, if_pos (by rfl)]
    unfold longN
    rw [hd', ← hP]
theorem long_same (xs ls : List Int) : ∃ os ok one c, driveLongOf xs ls = (os, ok) ∧ isLongOf xs ls = (ok, one) ∧ blockedOf xs ls = (c, one && !ok) ∧ (ok = true → taskB xs ls = true ∧ longOk xs ls = true ∧ os = longN xs ls ∧ one = true) := by
  unfold driveLongOf isLongOf blockedOf
  by_cases h : taskB xs ls = true
  · by_cases h2 : longOk xs ls = true
    · exact ⟨_, true, true, 0, by simp [h, h2], by simp [h, h2], by simp [h2], fun _ => ⟨h, h2, rfl, rfl⟩⟩
    · exact ⟨[], false, true, _, by simp [h2], by simp [h, h2], by simp [h, Bool.eq_false_iff.2 h2]; rfl, by simp⟩
  · exact ⟨[], false, false, 0, by simp [h], by simp [h], by simp [h], by simp⟩
end Go.Proofs.Ytnddplldkgphnac

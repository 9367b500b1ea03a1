/- Chapter 9: no car drives farther than as the last one. -/
import Derived.Test.YtehdccfkkfkciacMathVv
import Derived.Test.YtehdccfkkfkciacMathQ
namespace Go.Proofs.Ytehdccfkkfkciac
open Go.RowKit

def ordersL (n : Nat) : Nat → List Int → List (List Int)
  | 0, p => [p]
  | k + 1, p => (List.range n).flatMap fun (i : Nat) => if (i : Int) ∈ p then [] else ordersL n k (p ++ [(i : Int)])
def ordersTo (n k : Nat) (p : List Int) (c : Nat) : List (List Int) := (List.range c).flatMap fun (i : Nat) => if (i : Int) ∈ p then [] else ordersL n k (p ++ [(i : Int)])
theorem ordersTo_yes {n k c : Nat} {p : List Int} (h : ¬ (c : Int) ∈ p) : ordersTo n k p (c + 1) = ordersTo n k p c ++ ordersL n k (p ++ [(c : Int)]) := by simp [ordersTo, List.range_succ, h]
theorem ordersTo_no {n k c : Nat} {p : List Int} (h : (c : Int) ∈ p) : ordersTo n k p (c + 1) = ordersTo n k p c := by simp [ordersTo, List.range_succ, h]
theorem length_orders : ∀ (n k : Nat) (p : List Int), (ordersL n k p).length ≤ n ^ k
  | n, 0, p => by simp [ordersL]
  | n, k + 1, p => by
    have key : ∀ c, (ordersTo n k p c).length ≤ c * n ^ k := by
      intro c
      induction c with
      | zero => simp [ordersTo]
      | succ c ih =>
        have h1 := length_orders n k (p ++ [(c : Int)])
        by_cases e : (c : Int) ∈ p
        · rw [ordersTo_no e, Nat.succ_mul]; omega
        · rw [ordersTo_yes e, List.length_append, Nat.succ_mul]; omega
    have := key n
    rw [Nat.pow_succ, Nat.mul_comm]
    exact this
theorem length_ordersTo (n k : Nat) (p : List Int) : ∀ c, (ordersTo n k p c).length ≤ c * n ^ k := by
  intro c
  induction c with
  | zero => simp [ordersTo]
  | succ c ih =>
    have h1 := length_orders n k (p ++ [(c : Int)])
    by_cases e : (c : Int) ∈ p
    · rw [ordersTo_no e, Nat.succ_mul]; omega
    · rw [ordersTo_yes e, List.length_append, Nat.succ_mul]; omega
theorem pow6 : ∀ n, n < 7 → ∀ k, k < 7 → n ^ k ≤ 46656 := by decide +kernel
/-- All cars but one, and this one behind them. -/
def lastO (n c : Nat) : List Int := (upto n).eraseIdx c ++ [(c : Int)]
theorem orders_perm : ∀ n, n < 7 → (ordersL n n []).all (fun os => os.isPerm (upto n)) = true := by decide +kernel
theorem orders_last : ∀ n, n < 7 → ∀ c, c < n → (ordersL n n []).contains (lastO n c) = true := by decide +kernel
theorem length_lastO {n c : Nat} (h : c < n) : (lastO n c).length = n := by
  unfold lastO
  rw [List.length_append, List.length_eraseIdx, length_upto, if_pos h, List.length_singleton]
  omega
theorem upto_split {n c : Nat} (h : c < n) : (upto n).Perm ((c : Int) :: (upto n).eraseIdx c) := by
  have e : upto n = (upto n).take c ++ (c : Int) :: (upto n).drop (c + 1) := by
    conv => lhs; rw [← List.take_append_drop c (upto n)]
    rw [List.drop_eq_getElem_cons (by rw [length_upto]; exact h)]
    simp [upto]
  rw [List.eraseIdx_eq_take_drop_succ]
  conv => lhs; rw [e]
  exact List.perm_middle
theorem lastO_perm {n c : Nat} (h : c < n) : (lastO n c).Perm (upto n) := by
  unfold lastO
  exact (List.perm_append_comm.trans (upto_split h).symm)
theorem place_mono {p : Int} {out out' : List Int} {x : Int} (hx : x ≤ p) (h : ∀ z ∈ out, z ∈ out') (h' : place p out' x ≠ -1) : place p out x ≤ place p out' x := by
  rcases place_spec (p := p) (out := out') _ x hx rfl with ⟨e, _⟩ | ⟨a1, a2, a3, a4⟩
  · exact absurd e h'
  · rcases place_spec (p := p) (out := out) _ x hx rfl with ⟨e, b1⟩ | ⟨b1, b2, b3, b4⟩
    · exact absurd (h _ (b1 _ a1 a2)) a3
    · refine Classical.byContradiction fun hlt => ?_
      exact a3 (h _ (b4 _ a1 (by omega)))
/-- How far a car drives that comes last. -/
def lastD (xs : List Int) (p : Int) (n c : Nat) : Int := nth (dists p (reordL xs (lastO n c))) (n - 1)
theorem reord_append (xs A B : List Int) : reordL xs (A ++ B) = reordL xs A ++ reordL xs B := by simp [reordL]
theorem dist_le_last {xs os : List Int} {p : Int} {n k : Nat} (hl : xs.length = n) (h : (good xs p && allPark p xs) = true) (ho : os.Perm (upto n)) (hk : k < n) : ∃ c, c < n ∧ nth (dists p (reordL xs os)) k ≤ lastD xs p n c := by
  have hol : os.length = n := by rw [ho.length_eq, length_upto]
  obtain ⟨c, hc, hcv⟩ := mem_upto.1 (ho.subset (nth_mem (xs := os) (i := k) (by omega)))
  refine ⟨c, hc, ?_⟩
  have h1 := reord_park (os := os) h (by rw [hl]; exact ho)
  have h2 := reord_park (os := lastO n c) h (by rw [hl]; exact lastO_perm hc)
  obtain ⟨q1, q2⟩ := Bool.and_eq_true_iff.1 h2
  have hb1 := good_le (Bool.and_eq_true_iff.1 h1).1
  have hb2 := good_le q1
  have hlr : (reordL xs os).length = n := by rw [length_reord, hol]
  have hll : (reordL xs (lastO n c)).length = n := by rw [length_reord, length_lastO hc]
  unfold lastD
  rw [nth_dists (by omega), nth_dists (by omega), drive_get (by omega), drive_get (by omega)]
  have hx1 : nth (reordL xs os) k = nth xs c := by rw [nth_reord (by omega), hcv, Int.toNat_natCast]
  have hx2 : nth (reordL xs (lastO n c)) (n - 1) = nth xs c := by
    rw [nth_reord (by rw [length_lastO hc]; omega)]
    have : nth (lastO n c) (n - 1) = (c : Int) := by
      have hle : ((upto n).eraseIdx c).length = n - 1 := by rw [List.length_eraseIdx, length_upto, if_pos hc]
      unfold lastO
      rw [← hle]
      exact nth_append_at
    rw [this, Int.toNat_natCast]
  have htk : (reordL xs (lastO n c)).take (n - 1) = reordL xs ((upto n).eraseIdx c) := by
    unfold lastO
    rw [reord_append, List.take_append_of_le_length (by rw [length_reord, List.length_eraseIdx, length_upto, if_pos hc]; exact Nat.le_refl _), List.take_of_length_le (by rw [length_reord, List.length_eraseIdx, length_upto, if_pos hc]; exact Nat.le_refl _)]
  have htk1 : (reordL xs os).take k = reordL xs (os.take k) := by simp [reordL, List.map_take]
  have hsp : os = os.take k ++ (c : Int) :: os.drop (k + 1) := by
    conv => lhs; rw [← List.take_append_drop k os]
    rw [List.drop_eq_getElem_cons (by omega)]
    have : os[k] = (c : Int) := by rw [← hcv]; simp [nth, show k < os.length by omega]
    rw [this]
  have hperm : (os.take k ++ os.drop (k + 1)).Perm ((upto n).eraseIdx c) := by
    have : ((c : Int) :: (os.take k ++ os.drop (k + 1))).Perm ((c : Int) :: (upto n).eraseIdx c) := by
      refine List.perm_middle.symm.trans ?_
      rw [← hsp]
      exact ho.trans (upto_split hc)
    exact this.cons_inv
  have hsub : ∀ z ∈ drive p (reordL xs (os.take k)), z ∈ drive p (reordL xs ((upto n).eraseIdx c)) := fun z hz => by
    have hrp : (reordL xs (os.take k ++ os.drop (k + 1))).Perm (reordL xs ((upto n).eraseIdx c)) := hperm.map _
    refine (drive_order hrp fun x hx => ?_).subset ?_
    · refine hb2 x ?_
      unfold lastO
      rw [reord_append]
      exact List.mem_append_left _ (hrp.subset hx)
    · rw [reord_append]
      have : drive p (reordL xs (os.take k) ++ reordL xs (os.drop (k + 1))) = (reordL xs (os.drop (k + 1))).foldl (fun out x => out ++ [place p out x]) (drive p (reordL xs (os.take k))) := by simp [drive, List.foldl_append]
      rw [this]
      exact drive_append_mem _ _ _ hz
  rw [hx1, hx2, htk, htk1]
  have hne : place p (drive p (reordL xs ((upto n).eraseIdx c))) (nth xs c) ≠ -1 := by
    intro e
    refine allPark_iff.1 q2 ?_
    have hg := drive_get (p := p) (xs := reordL xs (lastO n c)) (k := n - 1) (by omega)
    rw [hx2, htk, e] at hg
    rw [← hg]
    exact nth_mem (by rw [length_drive]; omega)
  have hxp : nth xs c ≤ p := by rw [← hx1]; exact (hb1 _ (nth_mem (by omega))).2
  have := place_mono hxp hsub hne
  omega
def greatAll (xs : List Int) (p : Int) (n : Nat) : Int := greatL ((ordersL n n []).map fun os => greatL (dists p (reordL xs os)))
def greatLast (xs : List Int) (p : Int) (n : Nat) : Int := greatL ((List.range n).map fun c => lastD xs p n c)
theorem great_iff {ys : List Int} {m : Int} (hm : 0 ≤ m) : greatL ys ≤ m ↔ ∀ y ∈ ys, y ≤ m := by
  constructor
  · intro h y hy
    exact Int.le_trans ((fmax_ge ys 0).2 y hy) h
  · intro h
    rcases fmax_mem ys 0 with e | e
    · unfold greatL; omega
    · exact h _ e
theorem great_nonneg (ys : List Int) : 0 ≤ greatL ys := (fmax_ge ys 0).1
theorem great_same {xs : List Int} {p : Int} {n : Nat} (hl : xs.length = n) (h6 : n ≤ 6) (h : (good xs p && allPark p xs) = true) : greatLast xs p n = greatAll xs p n := by
  have hall : ∀ os ∈ ordersL n n [], os.Perm (upto n) := fun os ho => List.isPerm_iff.1 (List.all_eq_true.1 (orders_perm n (by omega)) os ho)
  refine Int.le_antisymm ?_ ?_
  · refine (great_iff (m := greatAll xs p n) (great_nonneg _)).2 ?_
    intro y hy
    obtain ⟨c, hc, rfl⟩ := List.mem_map.1 hy
    have hc := List.mem_range.1 hc
    have hm : lastO n c ∈ ordersL n n [] := List.contains_iff_mem.1 (orders_last n (by omega) c hc)
    have h1 := (fmax_ge ((ordersL n n []).map fun os => greatL (dists p (reordL xs os))) 0).2 _ (List.mem_map_of_mem hm)
    refine Int.le_trans ?_ h1
    exact (fmax_ge (dists p (reordL xs (lastO n c))) 0).2 _ (nth_mem (by rw [length_dists, length_reord, length_lastO hc]; omega))
  · refine (great_iff (m := greatLast xs p n) (great_nonneg _)).2 ?_
    intro y hy
    obtain ⟨os, ho, rfl⟩ := List.mem_map.1 hy
    refine (great_iff (m := greatLast xs p n) (great_nonneg _)).2 ?_
    intro z hz
    obtain ⟨k, hk, rfl⟩ := mem_nth hz
    have hp := hall os ho
    rw [length_dists, length_reord, hp.length_eq, length_upto] at hk
    obtain ⟨c, hc, hle⟩ := dist_le_last hl h hp hk
    exact Int.le_trans hle ((fmax_ge ((List.range n).map fun c => lastD xs p n c) 0).2 _ (List.mem_map_of_mem (List.mem_range.2 hc)))
def mostGr (xs : List Int) (p : Int) : Int × Bool := if good xs p && allPark p xs && decide (xs.length ≤ 6) then (greatAll xs p xs.length, true) else (0, false)
end Go.Proofs.Ytehdccfkkfkciac

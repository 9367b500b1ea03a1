/- Sand with the sum that settles is a group. -/
import Derived.Test.YtclpbccmgfclcaaMathSb
namespace Go.Proofs.Ytclpbccmgfclcaa
open Go.RowKit

theorem plus_comm {c d : List Int} (h : c.length = d.length) : plusL c d = plusL d c := ext_nth (by rw [length_plusL h, length_plusL h.symm, h]) fun k hk => by
  rw [length_plusL h] at hk
  rw [nth_plusL hk (by omega), nth_plusL (by omega) hk]
  omega
theorem plus_assoc {c d e : List Int} (h : c.length = d.length) (h' : d.length = e.length) : plusL (plusL c d) e = plusL c (plusL d e) := by
  have l1 := length_plusL h
  have l2 := length_plusL h'
  refine ext_nth (by rw [length_plusL (by omega), length_plusL (c := c) (d := plusL d e) (by omega), l1]) fun k hk => ?_
  rw [length_plusL (by omega)] at hk
  rw [nth_plusL hk (by omega), nth_plusL (by omega) (by omega), nth_plusL (by omega) (by omega), nth_plusL (by omega) (by omega)]
  omega
theorem top_plus {x y : List Int} (h : x.length = y.length) {i : Nat} (hi : i < x.length) : topL (plusL x y) i = plusL (topL x i) y := by
  have l1 := length_plusL h
  refine ext_nth (by rw [length_topL, l1, length_plusL (by simpa using h), length_topL]) fun k hk => ?_
  rw [length_topL, l1] at hk
  rw [nth_topL (by omega) (by omega), nth_plusL (c := topL x i) (by simpa using hk) (by omega), nth_topL hi hk, nth_plusL hk (by omega), l1]
  split <;> omega
/-- Sand may settle before more is added. -/
theorem settle_plus {x y : List Int} (hx : Pile x) (hy : Pile y) (h : x.length = y.length) : (settle (plusL (settle x).1 y)).1 = (settle (plusL x y)).1 := by
  refine settle_ind (P := fun x => x.length = y.length → (settle (plusL (settle x).1 y)).1 = (settle (plusL x y)).1) (fun x hx hf _ => ?_) (fun x hx hf ih h => ?_) (total x).toNat x hx (by omega) h
  · rw [settle_done hf]
  · have hs := settle_step hx hf
    have h1 := ih (by simpa using h)
    rw [hs]
    simp only
    rw [h1, ← top_plus h hf]
    have hp := pile_plus hx hy h
    refine (settle_any_first (total (plusL x y)).toNat _ hp (by have := (pile_total hp).1; omega) (firstN x) (by rw [length_plusL h]; exact hf) ?_).1
    rw [length_plusL h, nth_plusL hf (by omega)]
    have := first_at hf
    have := hy.nth (k := firstN x) (by omega)
    omega
theorem settle_fix {c : List Int} (h : ∀ x ∈ c, x < (c.length : Int)) : (settle c).1 = c := by
  rw [settle_done (first_none fun j hj => h _ (nth_mem hj))]
/-- All nodes get m grains more. -/
def upM (c : List Int) (m : Nat) : List Int := c.map (· + (m : Int))
@[simp] theorem length_upM (c : List Int) (m : Nat) : (upM c m).length = c.length := by simp [upM]
theorem nth_upM {c : List Int} {m k : Nat} (h : k < c.length) : nth (upM c m) k = nth c k + m := by simp [upM, nth, h]
theorem pile_upM {c : List Int} (h : Pile c) (m : Nat) : Pile (upM c m) := fun x hx => by
  obtain ⟨y, hy, rfl⟩ := List.mem_map.1 hx
  have := h y hy
  omega
theorem rec_up {c : List Int} (h : Pile c) (hr : recB c = true) : ∀ m, (settle (upM c m)).1 = c
  | 0 => by
    have : upM c 0 = c := by simp [upM]
    rw [this, settle_done (rec_stable h hr)]
  | m + 1 => by
    have e : upM c (m + 1) = plusL (c.map (· + 1)) (List.replicate c.length (m : Int)) := ext_nth (by rw [length_plusL (by simp)]; simp) fun k hk => by
      rw [length_upM] at hk
      rw [nth_upM hk, nth_plusL (by simpa using hk) (by simpa using hk), nth_map_succ hk]
      simp [nth, hk]
      omega
    have e2 : plusL c (List.replicate c.length (m : Int)) = upM c m := ext_nth (by rw [length_plusL (by simp)]; simp) fun k hk => by
      rw [length_plusL (by simp)] at hk
      rw [nth_upM hk, nth_plusL hk (by simpa using hk)]
      simp [nth, hk]
    rw [e, ← settle_plus (pile_succ h) (fun x hx => by obtain ⟨-, rfl⟩ := List.mem_replicate.1 hx; omega) (by simp), of_decide_eq_true hr, e2]
    exact rec_up h hr m
theorem upM_rest {c : List Int} : plusL c (restL c.length) = upM c (c.length - 1) := ext_nth (by rw [length_plusL (by simp [restL])]; simp) fun k hk => by
  rw [length_plusL (by simp [restL])] at hk
  rw [nth_upM hk, nth_plusL hk (by simpa [restL] using hk)]
  simp [nth, restL, hk]
  omega
/-- The rest sand changes no recurrent sand. -/
theorem rest_none {c : List Int} (h : Pile c) (hr : recB c = true) : (settle (plusL c (restL c.length))).1 = c := by
  rw [upM_rest]; exact rec_up h hr _
theorem pile_rest (n : Nat) : Pile (restL n) := fun x hx => by
  obtain ⟨h1, rfl⟩ := List.mem_replicate.1 hx
  omega
theorem rest_facts : ∀ n : Nat, n ≤ 8 → recB (restL n) = true ∧ sandB (restL n) = true := by decide +kernel
/-- A sum with recurrent sand is recurrent. -/
theorem sum_rec {c d : List Int} (hc : Pile c) (hd : Pile d) (h : c.length = d.length) (hr : recB c = true) : recB (settle (plusL c d)).1 = true := by
  have hp := pile_plus hc hd h
  have S := settled hp
  have hl := length_plusL h
  have key : (settle ((settle (plusL c d)).1.map (· + 1))).1 = (settle (plusL c d)).1 := by
    have e1 := plus_ones (settle (plusL c d)).1
    rw [← e1]
    rw [settle_plus hp (fun x hx => by obtain ⟨-, rfl⟩ := List.mem_replicate.1 hx; omega) (by rw [S.len]; simp)]
    have e2 : plusL (plusL c d) (List.replicate (settle (plusL c d)).1.length 1) = plusL (c.map (· + 1)) d := by
      rw [← plus_ones c, S.len, hl, plus_assoc h (by simpa using h.symm), plus_comm (c := d) (by simpa using h.symm), plus_assoc (by simp) (by simpa using h)]
    rw [e2, ← settle_plus (pile_succ hc) hd (by simpa using h), of_decide_eq_true hr]
  unfold recB
  rw [key]
  simp
/-- Sand many times. -/
def mulL (c : List Int) (m : Nat) : List Int := c.map (· * (m : Int))
theorem nth_mulL {c : List Int} {m k : Nat} (h : k < c.length) : nth (mulL c m) k = nth c k * m := by simp [mulL, nth, h]
@[simp] theorem length_mulL (c : List Int) (m : Nat) : (mulL c m).length = c.length := by simp [mulL]
theorem pile_mul {c : List Int} (h : Pile c) (m : Nat) : Pile (mulL c m) := fun x hx => by
  obtain ⟨y, hy, rfl⟩ := List.mem_map.1 hx
  exact Int.mul_nonneg (h y hy) (by omega)
theorem rep_all {c : List Int} (h : Pile c) (hr : ∀ x ∈ restL c.length, x < ((restL c.length).length : Int)) : ∀ k, repL c k = (settle (plusL (restL c.length) (mulL c k))).1
  | 0 => by
    have e : plusL (restL c.length) (mulL c 0) = restL c.length := ext_nth (by rw [length_plusL (by simp [restL])]) fun k hk => by
      rw [length_plusL (by simp [restL])] at hk
      rw [nth_plusL hk (by simpa [restL] using hk), nth_mulL (by simpa [restL] using hk)]
      simp
    rw [e, settle_fix hr]
    rfl
  | k + 1 => by
    have hl : (restL c.length).length = c.length := by simp [restL]
    have e : plusL (plusL (restL c.length) (mulL c k)) c = plusL (restL c.length) (mulL c (k + 1)) := by
      rw [plus_assoc (by simp [restL]) (by simp)]
      congr 1
      refine ext_nth (by rw [length_plusL (by simp)]; simp) fun i hi => ?_
      rw [length_plusL (by simp), length_mulL] at hi
      rw [nth_plusL (by simpa using hi) hi, nth_mulL hi, nth_mulL hi, Int.natCast_succ, Int.mul_add]
      omega
    rw [repL, rep_all h hr k, settle_plus (pile_plus (pile_rest _) (pile_mul h k) (by simp [restL])) h (by rw [length_plusL (by simp [restL]), hl]), e]
/-- Nodes that topple as often as they have grains for it leave as many grains everywhere. -/
theorem down_all {n : Nat} (b : List Int) (hb : Pile b) (hbn : b.length = n) : ∀ (T : Nat) (c : List Int), Pile c → c.length = n → total c = T → ∀ u : Nat, (settle (plusL (upM b u) (mulL c (n + 1)))).1 = (settle (upM b (u + T))).1
  | 0, c, hc, hl, ht, u => by
    have : ∀ x ∈ c, x = 0 := fun x hx => by
      have := (pile_total hc).2 x hx
      have := hc x hx
      omega
    congr 2
    refine ext_nth (by rw [length_plusL (by simp; omega)]; simp) fun k hk => ?_
    rw [length_plusL (by simp; omega), length_upM] at hk
    rw [nth_plusL (by simpa using hk) (by simp; omega), nth_mulL (by omega), nth_upM hk, this _ (nth_mem (by omega)), nth_upM hk]
    simp
  | T + 1, c, hc, hl, ht, u => by
    -- some node has a grain
    obtain ⟨i, hi, hpos⟩ : ∃ i, i < c.length ∧ 1 ≤ nth c i := by
      apply Classical.byContradiction
      intro hno
      have h0 : ∀ x ∈ c, x ≤ 0 := fun x hx => by
        obtain ⟨i, hi, rfl⟩ := mem_nth hx
        apply Classical.byContradiction
        intro h
        exact hno ⟨i, hi, by omega⟩
      have := total_le (M := 0) h0
      omega
    have hc2 : Pile (c.set i (nth c i - 1)) := pile_of fun k hk => by
      rw [List.length_set] at hk
      rw [nth_set hi]
      have := hc.nth hk
      split <;> omega
    have ih := down_all b hb hbn T (c.set i (nth c i - 1)) hc2 (by simpa using hl) (by rw [total_set _ _ _ hi]; omega) (u + 1)
    have hle : (upM b u).length = (mulL c (n + 1)).length := by simp; omega
    have hp := pile_plus (pile_upM hb u) (pile_mul hc (n + 1)) hle
    have hlen := length_plusL hle
    rw [length_upM] at hlen
    have key : topL (plusL (upM b u) (mulL c (n + 1))) i = plusL (upM b (u + 1)) (mulL (c.set i (nth c i - 1)) (n + 1)) := by
      refine ext_nth (by rw [length_topL, hlen, length_plusL (by simp; omega)]; simp) fun k hk => ?_
      rw [length_topL, hlen] at hk
      rw [nth_topL (by omega) (by omega), nth_plusL (by simpa using hk) (by simp; omega), nth_plusL (by simpa using hk) (by simp; omega), nth_upM hk, nth_upM hk, nth_mulL (by omega), nth_mulL (by simp; omega), nth_set hi, hlen]
      by_cases e : i = k
      · subst e
        rw [if_pos rfl, if_pos rfl, Int.sub_mul]
        simp only [Int.natCast_succ]
        omega
      · rw [if_neg e, if_neg e]
        simp only [Int.natCast_succ]
        omega
    have hleg : ((plusL (upM b u) (mulL c (n + 1))).length : Int) ≤ nth (plusL (upM b u) (mulL c (n + 1))) i := by
      rw [hlen, nth_plusL (by rw [length_upM]; omega) (by rw [length_mulL]; omega), nth_upM (by omega), nth_mulL hi]
      have h1 := hb.nth (k := i) (by omega)
      have h2 : 1 * ((n + 1 : Nat) : Int) ≤ nth c i * ((n + 1 : Nat) : Int) := Int.mul_le_mul_of_nonneg_right hpos (by omega)
      omega
    have := (settle_any_first (total (plusL (upM b u) (mulL c (n + 1)))).toNat _ hp (by have := (pile_total hp).1; omega) i (by rw [hlen]; omega) hleg).1
    rw [← this, key, ih, show u + (T + 1) = u + 1 + T by omega]
/-- n + 1 times recurrent sand leads back. -/
theorem round_rest {c : List Int} (h8 : c.length ≤ 8) (h : Pile c) : repL c (c.length + 1) = restL c.length := by
  obtain ⟨h1, h2⟩ := rest_facts c.length h8
  have hst := stable_lt (rec_stable (pile_rest _) h1)
  rw [rep_all h hst]
  have := down_all (restL c.length) (pile_rest _) (by simp [restL]) (total c).toNat c h rfl (by have := (pile_total h).1; omega) 0
  have e0 : upM (restL c.length) 0 = restL c.length := by simp [upM]
  rw [e0] at this
  rw [this]
  exact rec_up (pile_rest _) h1 _
end Go.Proofs.Ytclpbccmgfclcaa

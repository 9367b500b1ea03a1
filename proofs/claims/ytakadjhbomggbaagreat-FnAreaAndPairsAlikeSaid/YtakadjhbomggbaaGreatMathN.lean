/- How many parking functions begin so: counts place by place, ranks, what has a rank, and the next one. -/
import Derived.Test.YtakadjhbomggbaaGreatMathP
namespace Go.Proofs.YtakadjhbomggbaaGreat
open Go.RowKit

/-- The sum of the first numbers. -/
def sumTo (f : Nat → Nat) : Nat → Nat
  | 0 => 0
  | k + 1 => sumTo f k + f k
theorem sumTo_congr {f g : Nat → Nat} : ∀ {k : Nat}, (∀ i, i < k → f i = g i) → sumTo f k = sumTo g k
  | 0, _ => rfl
  | k + 1, h => by
    simp only [sumTo]
    rw [sumTo_congr (k := k) (fun i hi => h i (by omega)), h k (by omega)]
theorem sumTo_le {f g : Nat → Nat} : ∀ {k : Nat}, (∀ i, i < k → f i ≤ g i) → sumTo f k ≤ sumTo g k
  | 0, _ => Nat.le_refl _
  | k + 1, h => by
    simp only [sumTo]
    have := sumTo_le (k := k) (fun i hi => h i (by omega))
    have := h k (by omega)
    omega
theorem sumTo_add (f g : Nat → Nat) : ∀ k, sumTo (fun i => f i + g i) k = sumTo f k + sumTo g k
  | 0 => rfl
  | k + 1 => by simp only [sumTo]; rw [sumTo_add f g k]; omega
theorem sumTo_mul (c : Nat) (f : Nat → Nat) : ∀ k, sumTo (fun i => c * f i) k = c * sumTo f k
  | 0 => rfl
  | k + 1 => by simp only [sumTo]; rw [sumTo_mul c f k, Nat.mul_add]
theorem sumTo_zero {f : Nat → Nat} : ∀ {k : Nat}, (∀ i, i < k → f i = 0) → sumTo f k = 0
  | 0, _ => rfl
  | k + 1, h => by simp only [sumTo]; rw [sumTo_zero (fun i hi => h i (by omega)), h k (by omega)]
theorem sumTo_swap (f : Nat → Nat → Nat) (m : Nat) : ∀ k, sumTo (fun i => sumTo (fun j => f i j) m) k = sumTo (fun j => sumTo (fun i => f i j) k) m
  | 0 => by simp only [sumTo]; exact (sumTo_zero fun _ _ => rfl).symm
  | k + 1 => by simp only [sumTo]; rw [sumTo_swap f m k, ← sumTo_add]
theorem sumTo_shift (f : Nat → Nat) : ∀ k, sumTo f (k + 1) = f 0 + sumTo (fun i => f (i + 1)) k
  | 0 => by simp [sumTo]
  | k + 1 => by rw [sumTo, sumTo_shift f k]; simp only [sumTo]; omega
theorem sumTo_mono (f : Nat → Nat) {j k : Nat} (h : j ≤ k) : sumTo f j ≤ sumTo f k := by
  induction h with
  | refl => exact Nat.le_refl _
  | step _ ih => simp only [sumTo]; omega
theorem sumTo_get {f : Nat → Nat} {j k : Nat} (h : j < k) : f j ≤ sumTo f k := by
  have := sumTo_mono f (show j + 1 ≤ k from h)
  simp only [sumTo] at this
  omega

/-- In how many ways k of n are chosen. -/
def chs : Nat → Nat → Nat
  | _, 0 => 1
  | 0, _ + 1 => 0
  | n + 1, k + 1 => chs n k + chs n (k + 1)
theorem chs_zero (n : Nat) : chs n 0 = 1 := by cases n <;> rfl
theorem chs_big : ∀ (n k : Nat), n < k → chs n k = 0
  | 0, k + 1, _ => rfl
  | n + 1, k + 1, h => by simp only [chs]; rw [chs_big n k (by omega), chs_big n (k + 1) (by omega)]
theorem chs_self : ∀ (n : Nat), chs n n = 1
  | 0 => rfl
  | n + 1 => by simp only [chs]; rw [chs_self n, chs_big n (n + 1) (by omega)]
theorem chs_next : ∀ n, n < 17 → ∀ i, i < n → chs n i * (n - i) = chs n (i + 1) * (i + 1) := by decide +kernel
theorem chs_small : ∀ n, n < 17 → ∀ i, i < 17 → chs n i ≤ 12870 := by decide +kernel
theorem chs_chs : ∀ L, L < 9 → ∀ s, s < 9 → ∀ k, k < 9 → k ≤ s → s ≤ L → chs L k * chs (L - k) (s - k) = chs L s * chs s k := by decide +kernel
theorem chs_power : ∀ s, s < 9 → ∀ p, p < 9 → sumTo (fun k => chs s k * p ^ k) (s + 1) = (p + 1) ^ s := by decide +kernel

/-- How many lists of s favourites less than P there are with which, for each place less than P, there are enough favourites up to it, b of other cars among them. -/
def V (b : Nat → Nat) : Nat → Nat → Nat
  | 0, s => if s = 0 then 1 else 0
  | P + 1, s => if P < b P + s then sumTo (fun k => chs s k * V b P k) (s + 1) else 0
theorem V_congr {b c : Nat → Nat} : ∀ (P : Nat), (∀ i, i < P → b i = c i) → ∀ s, V b P s = V c P s
  | 0, _, s => rfl
  | P + 1, h, s => by
    simp only [V]
    rw [h P (by omega)]
    congr 1
    exact sumTo_congr fun k _ => by rw [V_congr P (fun i hi => h i (by omega)) k]
theorem V_le (b : Nat → Nat) : ∀ (P : Nat), P < 10 → ∀ s, s < 9 → V b P s ≤ P ^ s
  | 0, _, s, _ => by
    simp only [V]
    split
    · subst_vars; simp
    · exact Nat.zero_le _
  | P + 1, h, s, hs => by
    simp only [V]
    split
    · rw [← chs_power s hs P (by omega)]
      exact sumTo_le fun k hk => Nat.mul_le_mul_left _ (V_le b P (by omega) k (by omega))
    · omega
/-- One car more: by its favourite. -/
theorem V_split (b : Nat → Nat) : ∀ (P s : Nat), V b P (s + 1) = sumTo (fun x => V (fun i => b i + if x ≤ i then 1 else 0) P s) P
  | 0, s => by simp [V, sumTo]
  | P + 1, s => by
    have e1 : sumTo (fun x => V (fun i => b i + if x ≤ i then 1 else 0) (P + 1) s) (P + 1) =
        sumTo (fun x => if P < b P + (s + 1) then sumTo (fun k => chs s k * V (fun i => b i + if x ≤ i then 1 else 0) P k) (s + 1) else 0) (P + 1) := by
      refine sumTo_congr fun x hx => ?_
      simp only [V]
      have : (P < (b P + if x ≤ P then 1 else 0) + s) = (P < b P + (s + 1)) := by rw [if_pos (show x ≤ P by omega)]; apply propext; omega
      simp only [this]
    rw [e1]
    simp only [V]
    split
    · rw [sumTo_swap]
      have e2 : ∀ k, sumTo (fun x => chs s k * V (fun i => b i + if x ≤ i then 1 else 0) P k) (P + 1) = chs s k * (V b P (k + 1) + V b P k) := by
        intro k
        rw [sumTo_mul, sumTo, V_split b P k]
        rw [V_congr (c := b) P (fun i hi => by rw [if_neg (by omega)]; rfl) k]
      rw [sumTo_congr fun k _ => e2 k]
      have e3 : sumTo (fun k => chs s k * (V b P (k + 1) + V b P k)) (s + 1) = sumTo (fun k => chs s k * V b P (k + 1)) (s + 1) + sumTo (fun k => chs s k * V b P k) (s + 2) := by
        rw [sumTo_congr fun k _ => Nat.mul_add (chs s k) _ _, sumTo_add]
        have : sumTo (fun k => chs s k * V b P k) (s + 2) = sumTo (fun k => chs s k * V b P k) (s + 1) := by
          rw [show s + 2 = (s + 1) + 1 from rfl]
          conv => lhs; rw [sumTo]
          rw [chs_big s (s + 1) (by omega)]
          simp
        rw [this]
      rw [e3, sumTo_shift _ (s + 1), sumTo_shift _ (s + 1), chs_zero, chs_zero]
      rw [sumTo_congr fun k _ => show chs (s + 1) (k + 1) * V b P (k + 1) = chs s k * V b P (k + 1) + chs s (k + 1) * V b P (k + 1) from by simp only [chs]; rw [Nat.add_mul], sumTo_add]
      omega
    · exact (sumTo_zero fun _ _ => rfl).symm
theorem V_none (b : Nat → Nat) : ∀ P, V b P 0 = if ∀ i, i < P → i < b i then 1 else 0
  | 0 => by simp [V]
  | P + 1 => by
    have ih := V_none b P
    simp only [V, sumTo, chs]
    rw [ih]
    by_cases h : ∀ i, i < P + 1 → i < b i
    · rw [if_pos h, if_pos (by have := h P (by omega); omega), if_pos (fun i hi => h i (by omega))]
    · rw [if_neg h]
      split
      · rw [if_neg]
        intro hh
        exact h fun i hi => by
          rcases Nat.lt_succ_iff_lt_or_eq.1 hi with h1 | rfl
          · exact hh i h1
          · omega
      · rfl
theorem V_all : ∀ n, n < 9 → V (fun _ => 0) n n = if n = 0 then 1 else (n + 1) ^ (n - 1) := by decide +kernel
/-- How many parking functions of n cars begin with p. -/
def N (p : List Int) (n : Nat) : Nat := V (fun P => below p ((P : Int) + 1)) n (n - p.length)
theorem below_snoc (p : List Int) (x b : Int) : below (p ++ [x]) b = below p b + if x < b then 1 else 0 := by
  unfold below
  rw [List.countP_append]
  simp
theorem N_split {p : List Int} {n : Nat} (h : p.length < n) : N p n = sumTo (fun x => N (p ++ [(x : Int)]) n) n := by
  obtain ⟨s, hs⟩ : ∃ s, n - p.length = s + 1 := ⟨n - p.length - 1, by omega⟩
  unfold N
  rw [hs, V_split]
  refine sumTo_congr fun x hx => ?_
  rw [show n - (p ++ [(x : Int)]).length = s by simp; omega]
  refine V_congr n (fun i hi => ?_) s
  rw [below_snoc]
  congr 1
  have : (x ≤ i) = ((x : Int) < (i : Int) + 1) := by apply propext; omega
  simp only [this]
/-- With zeros behind it a beginning parks. -/
def zpark (p : List Int) (n : Nat) : Prop := ∀ i : Nat, i < n → i < below p ((i : Int) + 1) + (n - p.length)
instance (p : List Int) (n : Nat) : Decidable (zpark p n) := by unfold zpark; exact inferInstance
theorem N_full {p : List Int} {n : Nat} (h : p.length = n) : N p n = if zpark p n then 1 else 0 := by
  unfold N
  rw [h, Nat.sub_self, V_none]
  have e : zpark p n = ∀ i, i < n → i < below p ((i : Int) + 1) := by unfold zpark; rw [h, Nat.sub_self]; rfl
  simp only [e]
theorem V_pos {b : Nat → Nat} : ∀ {P s : Nat}, V b P s ≠ 0 → ∀ i, i < P → i < b i + s
  | 0, _, _, i, hi => by omega
  | P + 1, s, h, i, hi => by
    simp only [V] at h
    split at h
    · rcases Nat.lt_succ_iff_lt_or_eq.1 hi with h1 | rfl
      · apply Classical.byContradiction
        intro hn
        apply h
        refine sumTo_zero fun k hk => ?_
        have : V b P k = 0 := Classical.byContradiction fun hv => by
          have := V_pos hv i h1
          omega
        rw [this, Nat.mul_zero]
      · assumption
    · exact absurd rfl h
theorem N_pos {p : List Int} {n : Nat} (h : N p n ≠ 0) : zpark p n := V_pos h
theorem below_mono_at {p : List Int} {x y : Int} (h : x ≤ y) (b : Int) : below (p ++ [y]) b ≤ below (p ++ [x]) b := by
  rw [below_snoc, below_snoc]
  split <;> split <;> omega
theorem zpark_less {p : List Int} {x y : Int} {n : Nat} (h : x ≤ y) (hz : zpark (p ++ [y]) n) : zpark (p ++ [x]) n := by
  intro i hi
  have := hz i hi
  have := below_mono_at (p := p) h ((i : Int) + 1)
  simp at *
  omega
theorem N_zero_from {p : List Int} {x y : Int} {n : Nat} (h : ¬ zpark (p ++ [x]) n) (hy : x ≤ y) : N (p ++ [y]) n = 0 :=
  Classical.byContradiction fun hv => h (zpark_less hy (N_pos hv))
theorem below_zeros (p : List Int) (k i : Nat) : below (p ++ List.replicate k 0) ((i : Int) + 1) = below p ((i : Int) + 1) + k := by
  unfold below
  rw [List.countP_append]
  congr 1
  rw [List.countP_replicate]
  simp
theorem zpark_zeros {p : List Int} {n : Nat} (h : p.length ≤ n) : zpark (p ++ List.replicate (n - p.length) 0) n ↔ zpark p n := by
  unfold zpark
  have : (p ++ List.replicate (n - p.length) (0 : Int)).length = n := by simp; omega
  rw [this]
  constructor
  · intro hh i hi
    have := hh i hi
    rw [below_zeros] at this
    omega
  · intro hh i hi
    have := hh i hi
    rw [below_zeros]
    omega

/-- Numbers as they lie in memory. -/
def toI (r : List Nat) : List Int := r.map fun (x : Nat) => (x : Int)
theorem toI_append (r s : List Nat) : toI (r ++ s) = toI r ++ toI s := by simp [toI]
theorem length_toI (r : List Nat) : (toI r).length = r.length := by simp [toI]
theorem toI_cons (x : Nat) (r : List Nat) : toI (x :: r) = (x : Int) :: toI r := rfl
theorem snoc_toI (p : List Int) (x : Nat) (r : List Nat) : p ++ toI (x :: r) = p ++ [(x : Int)] ++ toI r := by simp [toI_cons]

/-- The rank of what goes on a beginning, among all that do. -/
def rk (n : Nat) : List Int → List Nat → Nat
  | _, [] => 0
  | p, x :: r => sumTo (fun y => N (p ++ [(y : Int)]) n) x + rk n (p ++ [(x : Int)]) r
theorem rk_append (n : Nat) : ∀ (r s : List Nat) (p : List Int), rk n p (r ++ s) = rk n p r + rk n (p ++ toI r) s
  | [], s, p => by simp [rk, toI]
  | x :: r, s, p => by
    simp only [List.cons_append, rk]
    rw [rk_append n r s, snoc_toI]
    omega
theorem rk_zeros (n : Nat) : ∀ (k : Nat) (p : List Int), rk n p (List.replicate k 0) = 0
  | 0, _ => rfl
  | k + 1, p => by simp only [List.replicate, rk, sumTo]; rw [rk_zeros n k]
theorem zpark_take {p q : List Int} {n : Nat} (hl : (p ++ q).length ≤ n) (h : zpark (p ++ q) n) : zpark p n := by
  intro i hi
  have := h i hi
  have h2 : below (p ++ q) ((i : Int) + 1) = below p ((i : Int) + 1) + below q ((i : Int) + 1) := by unfold below; rw [List.countP_append]
  have h3 := below_le q ((i : Int) + 1)
  simp at *
  omega
theorem rk_lt {n : Nat} : ∀ (r : List Nat) (p : List Int), p.length + r.length = n → (∀ x ∈ r, x < n) → zpark (p ++ toI r) n → rk n p r < N p n
  | [], p, h, _, hz => by
    rw [N_full (by simpa using h), if_pos (by simpa [toI] using hz)]
    simp [rk]
  | x :: r, p, h, hx, hz => by
    have ih := rk_lt r (p ++ [(x : Int)]) (by simp at *; omega) (fun y hy => hx y (by simp [hy])) (by rw [← snoc_toI]; exact hz)
    rw [N_split (by simp at h; omega)]
    have := sumTo_mono (fun y => N (p ++ [(y : Int)]) n) (show x + 1 ≤ n from hx x (by simp))
    simp only [sumTo] at this
    simp only [rk]
    omega

/-- The greedy choice: x is chosen at R, with r left. -/
def IsPick (f : Nat → Nat) (R x r : Nat) : Prop := R = sumTo f x + r ∧ r < f x
theorem IsPick.uniq {f : Nat → Nat} {R x r x' r' : Nat} (h : IsPick f R x r) (h' : IsPick f R x' r') : x = x' ∧ r = r' := by
  obtain ⟨a, b⟩ := h
  obtain ⟨a', b'⟩ := h'
  have e : x = x' := by
    rcases Nat.lt_trichotomy x x' with h | h | h
    · have := sumTo_mono f (show x + 1 ≤ x' from h)
      simp only [sumTo] at this
      omega
    · exact h
    · have := sumTo_mono f (show x' + 1 ≤ x from h)
      simp only [sumTo] at this
      omega
  subst e
  exact ⟨rfl, by omega⟩
/-- The choice, looked for from y on. -/
def pick (f : Nat → Nat) : Nat → Nat → Nat → Nat × Nat
  | 0, y, r => (y, r)
  | k + 1, y, r => if r < f y then (y, r) else pick f k (y + 1) (r - f y)
theorem pick_is {f : Nat → Nat} {R : Nat} : ∀ (k y r : Nat), R = sumTo f y + r → R < sumTo f (y + k) → IsPick f R (pick f k y r).1 (pick f k y r).2 ∧ (pick f k y r).1 < y + k
  | 0, y, r, h, h2 => by simp at h2; omega
  | k + 1, y, r, h, h2 => by
    simp only [pick]
    split
    · exact ⟨⟨h, by assumption⟩, by simp⟩
    · rename_i hge
      have := pick_is (f := f) (R := R) k (y + 1) (r - f y) (by simp only [sumTo]; rw [h]; omega) (by rw [show y + 1 + k = y + (k + 1) by omega]; exact h2)
      exact ⟨this.1, by omega⟩
theorem pick_eq {f : Nat → Nat} {n R x r : Nat} (h : IsPick f R x r) (hR : R < sumTo f n) : pick f n 0 R = (x, r) := by
  have := (pick_is (f := f) n 0 R (by simp [sumTo]) (by simpa using hR)).1.uniq h
  exact Prod.ext this.1 this.2
/-- What goes on a beginning with a rank, k numbers. -/
def atL (n : Nat) : Nat → List Int → Nat → List Nat
  | 0, _, _ => []
  | k + 1, p, R => (pick (fun y => N (p ++ [(y : Int)]) n) n 0 R).1 :: atL n k (p ++ [((pick (fun y => N (p ++ [(y : Int)]) n) n 0 R).1 : Int)]) (pick (fun y => N (p ++ [(y : Int)]) n) n 0 R).2
theorem length_atL (n : Nat) : ∀ (k : Nat) (p : List Int) (R : Nat), (atL n k p R).length = k
  | 0, _, _ => rfl
  | k + 1, p, R => by simp [atL, length_atL n k]
theorem at_step {n k : Nat} {p : List Int} {R x r : Nat} (h : IsPick (fun y => N (p ++ [(y : Int)]) n) R x r) (hp : p.length < n) (hR : R < N p n) : atL n (k + 1) p R = x :: atL n k (p ++ [(x : Int)]) r := by
  rw [N_split hp] at hR
  simp only [atL]
  rw [pick_eq h hR]
theorem at_rk {n : Nat} : ∀ (r : List Nat) (p : List Int), p.length + r.length = n → (∀ x ∈ r, x < n) → zpark (p ++ toI r) n → atL n r.length p (rk n p r) = r
  | [], _, _, _, _ => rfl
  | x :: r, p, h, hx, hz => by
    have hx' : ∀ y ∈ r, y < n := fun y hy => hx y (by simp [hy])
    have hz' : zpark (p ++ [(x : Int)] ++ toI r) n := by rw [← snoc_toI]; exact hz
    have hl : (p ++ [(x : Int)]).length + r.length = n := by simp at *; omega
    have h1 := rk_lt r (p ++ [(x : Int)]) hl hx' hz'
    have h2 := rk_lt (x :: r) p h hx hz
    rw [List.length_cons, at_step (x := x) (r := rk n (p ++ [(x : Int)]) r) (R := rk n p (x :: r)) ⟨rfl, h1⟩ (by simp at h; omega) h2, at_rk r _ hl hx' hz']
theorem rk_at {n : Nat} : ∀ (k : Nat) (p : List Int) (R : Nat), p.length + k = n → R < N p n → rk n p (atL n k p R) = R ∧ (∀ x ∈ atL n k p R, x < n) ∧ zpark (p ++ toI (atL n k p R)) n
  | 0, p, R, h, hR => by
    rw [N_full (by simpa using h)] at hR
    split at hR
    · exact ⟨by simp [atL, rk]; omega, by simp [atL], by simpa [atL, toI]⟩
    · omega
  | k + 1, p, R, h, hR => by
    have hR' := hR
    rw [N_split (by omega)] at hR'
    obtain ⟨⟨h1, h2⟩, h3⟩ := pick_is (f := fun y => N (p ++ [(y : Int)]) n) (R := R) n 0 R (by simp [sumTo]) (by simpa using hR')
    rw [at_step ⟨h1, h2⟩ (by omega) hR]
    generalize (pick (fun y => N (p ++ [(y : Int)]) n) n 0 R).1 = x at *
    generalize (pick (fun y => N (p ++ [(y : Int)]) n) n 0 R).2 = r at *
    obtain ⟨i1, i2, i3⟩ := rk_at k (p ++ [(x : Int)]) r (by simp; omega) h2
    refine ⟨by simp only [rk]; rw [i1]; exact h1.symm, ?_, by rw [snoc_toI]; exact i3⟩
    intro y hy
    rcases List.mem_cons.1 hy with rfl | hy
    · omega
    · exact i2 y hy

/-- No greater favourite of a car parks: it is the last one that goes on the beginning. -/
theorem rk_last {n : Nat} : ∀ (r : List Nat) (p : List Int), p.length + r.length = n → (∀ x ∈ r, x < n) → zpark (p ++ toI r) n →
    (∀ i (h : i < r.length), ¬ zpark (p ++ toI (r.take i) ++ [((r[i] : Nat) : Int) + 1]) n) → rk n p r + 1 = N p n
  | [], p, h, _, hz, _ => by
    rw [N_full (by simpa using h), if_pos (by simpa [toI] using hz)]
    simp [rk]
  | x :: r, p, h, hx, hz, hn => by
    have ih := rk_last r (p ++ [(x : Int)]) (by simp at *; omega) (fun y hy => hx y (by simp [hy])) (by rw [← snoc_toI]; exact hz) (fun i hi => by
      have := hn (i + 1) (by simpa using hi)
      rw [List.take_succ_cons, snoc_toI] at this
      simpa using this)
    have h0 := hn 0 (by simp)
    simp only [List.take_zero, toI, List.map_nil, List.append_nil, List.getElem_cons_zero] at h0
    rw [N_split (by simp at h; omega)]
    simp only [rk]
    have hxn : x < n := hx x (by simp)
    have hz0 : ∀ k, x + 1 + k ≤ n → sumTo (fun y => N (p ++ [(y : Int)]) n) (x + 1 + k) = sumTo (fun y => N (p ++ [(y : Int)]) n) (x + 1) := by
      intro k
      induction k with
      | zero => intro _; rfl
      | succ k ih2 =>
        intro hk
        rw [show x + 1 + (k + 1) = (x + 1 + k) + 1 from rfl, sumTo, ih2 (by omega), N_zero_from h0 (by omega), Nat.add_zero]
    have := hz0 (n - (x + 1)) (by omega)
    rw [show x + 1 + (n - (x + 1)) = n by omega] at this
    rw [this, sumTo]
    omega
/-- The next one: the last car whose favourite can be greater, zeros behind it. -/
theorem rk_next {n : Nat} {t r : List Nat} {x : Nat} (h : t.length + (1 + r.length) = n) (hx : ∀ y ∈ t ++ x :: r, y < n) (hz : zpark (toI (t ++ x :: r)) n)
    (hn : ∀ i (h : i < r.length), ¬ zpark (toI (t ++ x :: r.take i) ++ [((r[i] : Nat) : Int) + 1]) n) :
    rk n [] (t ++ (x + 1) :: List.replicate r.length 0) = rk n [] (t ++ x :: r) + 1 := by
  have hl := rk_last r (toI t ++ [(x : Int)]) (by simp [length_toI]; omega) (fun y hy => hx y (by simp [hy])) (by
    rw [toI_append, toI_cons] at hz
    simpa using hz) (fun i hi => by
    have := hn i hi
    rw [toI_append, toI_cons] at this
    simpa using this)
  rw [rk_append, rk_append]
  simp only [rk, List.nil_append, sumTo, rk_zeros]
  omega
/-- The parking functions that go on a beginning, in order. -/
def listL (n : Nat) : Nat → List Int → List (List Int)
  | 0, p => if zpark p n then [p] else []
  | k + 1, p => (List.range n).flatMap fun (x : Nat) => listL n k (p ++ [(x : Int)])
theorem range_blocks {α : Type} (g : Nat → α) (f : Nat → Nat) : ∀ n, (List.range (sumTo f n)).map g = (List.range n).flatMap fun x => (List.range (f x)).map fun r => g (sumTo f x + r)
  | 0 => rfl
  | n + 1 => by
    rw [List.range_succ, List.flatMap_append, ← range_blocks g f n]
    simp only [sumTo, List.flatMap_cons, List.flatMap_nil, List.append_nil]
    rw [List.range_add, List.map_append, List.map_map]
    rfl
theorem list_at {n : Nat} : ∀ (k : Nat) (p : List Int), p.length + k = n → listL n k p = (List.range (N p n)).map fun R => p ++ toI (atL n k p R)
  | 0, p, h => by
    rw [N_full (by simpa using h)]
    simp only [listL]
    split
    · simp [atL, toI, List.range_succ]
    · rfl
  | k + 1, p, h => by
    simp only [listL]
    rw [N_split (by omega), range_blocks]
    unfold List.flatMap
    congr 1
    apply List.map_congr_left
    intro x hx
    rw [List.mem_range] at hx
    rw [list_at k (p ++ [(x : Int)]) (by simp; omega)]
    apply List.map_congr_left
    intro R hR
    rw [List.mem_range] at hR
    have hlt : sumTo (fun x => N (p ++ [(x : Int)]) n) x + R < N p n := by
      rw [N_split (by omega)]
      have := sumTo_mono (fun y => N (p ++ [(y : Int)]) n) (show x + 1 ≤ n from hx)
      simp only [sumTo] at this
      omega
    rw [at_step ⟨rfl, hR⟩ (by omega) hlt, snoc_toI]

/-- A list parks just if there are enough favourites up to each place. -/
theorem isPark_zpark {xs : List Int} (h8 : xs.length ≤ 8) (h0 : ∀ x ∈ xs, 0 ≤ x) : isPark xs = true ↔ zpark xs xs.length := by
  rw [isPark_iff]
  constructor
  · rintro ⟨_, hb, ha⟩ i hi
    rw [Nat.sub_self, Nat.add_zero]
    have hfb := from_below xs ((i : Int) + 1)
    by_cases e : i + 1 < xs.length
    · have := (park_iff hb).1 ha (i + 1) (by omega)
      rw [show ((i + 1 : Nat) : Int) = (i : Int) + 1 by omega] at this
      omega
    · have hz : from' xs ((i : Int) + 1) = 0 := by
        unfold from'
        rw [List.countP_eq_zero]
        intro x hx
        have := hb x hx
        simp
        omega
      omega
  · intro hz
    have hz' : ∀ i : Nat, i < xs.length → i < below xs ((i : Int) + 1) := fun i hi => by have := hz i hi; omega
    have hb : ∀ x ∈ xs, 0 ≤ x ∧ x ≤ (xs.length : Int) - 1 := by
      intro x hx
      refine ⟨h0 x hx, ?_⟩
      apply Classical.byContradiction
      intro hn
      have hp : 0 < xs.length := List.length_pos_of_mem hx
      have := hz' (xs.length - 1) (by omega)
      have hall : below xs (((xs.length - 1 : Nat) : Int) + 1) = xs.length := by have := below_le xs (((xs.length - 1 : Nat) : Int) + 1); omega
      unfold below at hall
      have := List.countP_eq_length.1 hall x hx
      simp at this
      omega
    refine ⟨h8, hb, (park_iff hb).2 fun j hj => ?_⟩
    have hfb := from_below xs (j : Int)
    by_cases e : j = 0
    · subst e
      have := from_le xs ((0 : Nat) : Int)
      omega
    · have := hz' (j - 1) (by omega)
      rw [show ((j - 1 : Nat) : Int) + 1 = (j : Int) by omega] at this
      omega
/-- Favourites as plain numbers. -/
def toN (xs : List Int) : List Nat := xs.map Int.toNat
theorem toI_toN {xs : List Int} (h : ∀ x ∈ xs, 0 ≤ x) : toI (toN xs) = xs := by
  unfold toI toN
  rw [List.map_map]
  conv => rhs; rw [← List.map_id xs]
  apply List.map_congr_left
  intro x hx
  have := h x hx
  simp
  omega
theorem length_toN (xs : List Int) : (toN xs).length = xs.length := by simp [toN]
theorem N_le {p : List Int} {n : Nat} (h : n ≤ 8) : N p n ≤ 16777216 := by
  unfold N
  refine Nat.le_trans (V_le _ n (by omega) _ (by omega)) ?_
  refine Nat.le_trans (Nat.pow_le_pow_left h _) ?_
  exact Nat.le_trans (Nat.pow_le_pow_right (by omega) (show n - p.length ≤ 8 by omega)) (by decide)
/-- How many parking functions there are. -/
def cnt (n : Nat) : Nat := if n = 0 then 1 else (n + 1) ^ (n - 1)
theorem N_nil {n : Nat} (h : n ≤ 8) : N [] n = cnt n := by
  unfold N cnt
  rw [← V_all n (by omega)]
  simp only [List.length_nil, Nat.sub_zero]
  exact V_congr n (fun i hi => by simp [below]) n
theorem cnt_le {n : Nat} (h : n ≤ 8) : 1 ≤ cnt n ∧ cnt n ≤ 4782969 := by
  have : ∀ n, n < 9 → 1 ≤ cnt n ∧ cnt n ≤ 4782969 := by decide +kernel
  exact this n (by omega)

/-! ### What the functions come to -/
def countOf (n : Int) : Int × Bool := if inB n 0 8 then ((cnt n.toNat : Int), true) else (0, false)
def streetCnt (c p : Nat) : Nat := if c = 0 then 1 else if p < c then 0 else (p + 1 - c) * (p + 1) ^ (c - 1)
def streetOf (c p : Int) : Int × Bool := if inB c 0 8 && inB p 1 12 then ((streetCnt c.toNat p.toNat : Int), true) else (0, false)
def rankOf (xs : List Int) : Int × Bool := if isPark xs then ((rk xs.length [] (toN xs) : Int), true) else (0, false)
def atOf (n r : Int) : List Int × Bool := if inB n 0 8 && inB r 0 ((cnt n.toNat : Int) - 1) then (toI (atL n.toNat n.toNat [] r.toNat), true) else ([], false)
def nextOf (xs : List Int) : List Int × Bool := if isPark xs then atOf xs.length ((rk xs.length [] (toN xs) : Int) + 1) else ([], false)
def firstOf (n : Int) : List Int × Bool := if inB n 1 8 then ((List.range n.toNat).map fun (x : Nat) => (N [(x : Int)] n.toNat : Int), true) else ([], false)
def allOf (n : Int) : List (List Int) × Bool := if inB n 0 5 then (listL n.toNat n.toNat [], true) else ([], false)
end Go.Proofs.YtakadjhbomggbaaGreat

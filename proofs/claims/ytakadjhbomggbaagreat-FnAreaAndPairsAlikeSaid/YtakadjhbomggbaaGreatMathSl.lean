/- Lists under bounds: counted number by number, ranked, listed one behind the other. -/
import Derived.Test.YtakadjhbomggbaaGreatMathX
namespace Go.Proofs.YtakadjhbomggbaaGreat
open Go.RowKit

/-- What is counted: lists of n numbers less than A with which, for each number j less than A, at least need j are at most j. -/
structure Shp where
  A : Nat
  n : Nat
  need : Nat → Nat
/-- How many lists of s numbers less than P there are with which, for each number less than P, there are enough up to it, b of other ones among them. -/
def U (d b : Nat → Nat) : Nat → Nat → Nat
  | 0, s => if s = 0 then 1 else 0
  | P + 1, s => if d P ≤ b P + s then sumTo (fun k => chs s k * U d b P k) (s + 1) else 0
theorem V_U (b : Nat → Nat) : ∀ P s, V b P s = U (fun P => P + 1) b P s
  | 0, s => rfl
  | P + 1, s => by
    simp only [V, U]
    have : (P < b P + s) = (P + 1 ≤ b P + s) := rfl
    simp only [this]
    congr 1
    exact sumTo_congr fun k _ => by rw [V_U b P k]
theorem U_congr {d e b c : Nat → Nat} : ∀ (P : Nat), (∀ i, i < P → b i = c i) → (∀ i, i < P → d i = e i) → ∀ s, U d b P s = U e c P s
  | 0, _, _, s => rfl
  | P + 1, h, h2, s => by
    simp only [U]
    rw [h P (by omega), h2 P (by omega)]
    congr 1
    exact sumTo_congr fun k _ => by rw [U_congr P (fun i hi => h i (by omega)) (fun i hi => h2 i (by omega)) k]
theorem chs_power13 : ∀ s, s < 9 → ∀ p, p < 14 → sumTo (fun k => chs s k * p ^ k) (s + 1) = (p + 1) ^ s := by decide +kernel
theorem U_le (d b : Nat → Nat) : ∀ (P : Nat), P < 15 → ∀ s, s < 9 → U d b P s ≤ P ^ s
  | 0, _, s, _ => by
    simp only [U]
    split
    · subst_vars; simp
    · exact Nat.zero_le _
  | P + 1, h, s, hs => by
    simp only [U]
    split
    · rw [← chs_power13 s hs P (by omega)]
      exact sumTo_le fun k hk => Nat.mul_le_mul_left _ (U_le d b P (by omega) k (by omega))
    · omega
/-- One car more: by its number. -/
theorem U_split (d b : Nat → Nat) : ∀ (P s : Nat), U d b P (s + 1) = sumTo (fun x => U d (fun i => b i + if x ≤ i then 1 else 0) P s) P
  | 0, s => by simp [U, sumTo]
  | P + 1, s => by
    have e1 : sumTo (fun x => U d (fun i => b i + if x ≤ i then 1 else 0) (P + 1) s) (P + 1) =
        sumTo (fun x => if d P ≤ b P + (s + 1) then sumTo (fun k => chs s k * U d (fun i => b i + if x ≤ i then 1 else 0) P k) (s + 1) else 0) (P + 1) := by
      refine sumTo_congr fun x hx => ?_
      simp only [U]
      have : (d P ≤ (b P + if x ≤ P then 1 else 0) + s) = (d P ≤ b P + (s + 1)) := by rw [if_pos (show x ≤ P by omega)]; apply propext; omega
      simp only [this]
    rw [e1]
    simp only [U]
    split
    · rw [sumTo_swap]
      have e2 : ∀ k, sumTo (fun x => chs s k * U d (fun i => b i + if x ≤ i then 1 else 0) P k) (P + 1) = chs s k * (U d b P (k + 1) + U d b P k) := by
        intro k
        rw [sumTo_mul, sumTo, U_split d b P k]
        rw [U_congr (c := b) (e := d) P (fun i hi => by rw [if_neg (by omega)]; rfl) (fun _ _ => rfl) k]
      rw [sumTo_congr fun k _ => e2 k]
      have e3 : sumTo (fun k => chs s k * (U d b P (k + 1) + U d b P k)) (s + 1) = sumTo (fun k => chs s k * U d b P (k + 1)) (s + 1) + sumTo (fun k => chs s k * U d b P k) (s + 2) := by
        rw [sumTo_congr fun k _ => Nat.mul_add (chs s k) _ _, sumTo_add]
        have : sumTo (fun k => chs s k * U d b P k) (s + 2) = sumTo (fun k => chs s k * U d b P k) (s + 1) := by
          rw [show s + 2 = (s + 1) + 1 from rfl]
          conv => lhs; rw [sumTo]
          rw [chs_big s (s + 1) (by omega)]
          simp
        rw [this]
      rw [e3, sumTo_shift _ (s + 1), sumTo_shift _ (s + 1), chs_zero, chs_zero]
      rw [sumTo_congr fun k _ => show chs (s + 1) (k + 1) * U d b P (k + 1) = chs s k * U d b P (k + 1) + chs s (k + 1) * U d b P (k + 1) from by simp only [chs]; rw [Nat.add_mul], sumTo_add]
      omega
    · exact (sumTo_zero fun _ _ => rfl).symm
theorem U_none (d b : Nat → Nat) : ∀ P, U d b P 0 = if ∀ i, i < P → d i ≤ b i then 1 else 0
  | 0 => by simp [U]
  | P + 1 => by
    have ih := U_none d b P
    simp only [U, sumTo, chs]
    rw [ih]
    by_cases h : ∀ i, i < P + 1 → d i ≤ b i
    · rw [if_pos h, if_pos (by have := h P (by omega); omega), if_pos (fun i hi => h i (by omega))]
    · rw [if_neg h]
      split
      · rw [if_neg]
        intro hh
        exact h fun i hi => by
          rcases Nat.lt_succ_iff_lt_or_eq.1 hi with h1 | rfl
          · exact hh i h1
          · omega
      · rfl
theorem U_pos {d b : Nat → Nat} : ∀ {P s : Nat}, U d b P s ≠ 0 → ∀ i, i < P → d i ≤ b i + s
  | 0, _, _, i, hi => by omega
  | P + 1, s, h, i, hi => by
    simp only [U] at h
    split at h
    · rcases Nat.lt_succ_iff_lt_or_eq.1 hi with h1 | rfl
      · apply Classical.byContradiction
        intro hn
        apply h
        refine sumTo_zero fun k hk => ?_
        have : U d b P k = 0 := Classical.byContradiction fun hv => by
          have := U_pos hv i h1
          omega
        rw [this, Nat.mul_zero]
      · assumption
    · exact absurd rfl h
/-- How many such lists begin with p. -/
def NU (S : Shp) (p : List Int) : Nat := U S.need (fun P => below p ((P : Int) + 1)) S.A (S.n - p.length)
theorem u_N_split {S : Shp} {p : List Int} (h : p.length < S.n) : NU S p = sumTo (fun x => NU S (p ++ [(x : Int)])) S.A := by
  obtain ⟨s, hs⟩ : ∃ s, S.n - p.length = s + 1 := ⟨S.n - p.length - 1, by omega⟩
  unfold NU
  rw [hs, U_split]
  refine sumTo_congr fun x hx => ?_
  rw [show S.n - (p ++ [(x : Int)]).length = s by simp; omega]
  refine U_congr S.A (fun i hi => ?_) (fun _ _ => rfl) s
  rw [below_snoc]
  congr 1
  have : (x ≤ i) = ((x : Int) < (i : Int) + 1) := by apply propext; omega
  simp only [this]
/-- With zeros behind it a beginning is one. -/
def zf (S : Shp) (p : List Int) : Prop := ∀ i : Nat, i < S.A → S.need i ≤ below p ((i : Int) + 1) + (S.n - p.length)
instance (S : Shp) (p : List Int) : Decidable (zf S p) := by unfold zf; exact inferInstance
theorem u_N_full {S : Shp} {p : List Int} (h : p.length = S.n) : NU S p = if zf S p then 1 else 0 := by
  unfold NU
  rw [h, Nat.sub_self, U_none]
  have e : zf S p = ∀ i, i < S.A → S.need i ≤ below p ((i : Int) + 1) := by unfold zf; rw [h, Nat.sub_self]; rfl
  simp only [e]
theorem u_N_pos {S : Shp} {p : List Int} (h : NU S p ≠ 0) : zf S p := U_pos h
theorem u_zpark_less {S : Shp} {p : List Int} {x y : Int} (h : x ≤ y) (hz : zf S (p ++ [y])) : zf S (p ++ [x]) := by
  intro i hi
  have := hz i hi
  have := below_mono_at (p := p) h ((i : Int) + 1)
  simp at *
  omega
theorem u_N_zero_from {S : Shp} {p : List Int} {x y : Int} (h : ¬ zf S (p ++ [x])) (hy : x ≤ y) : NU S (p ++ [y]) = 0 :=
  Classical.byContradiction fun hv => h (u_zpark_less hy (u_N_pos hv))
theorem zf_zeros {S : Shp} {p : List Int} (h : p.length ≤ S.n) : zf S (p ++ List.replicate (S.n - p.length) 0) ↔ zf S p := by
  unfold zf
  have : (p ++ List.replicate (S.n - p.length) (0 : Int)).length = S.n := by simp; omega
  rw [this]
  constructor
  · intro hh i hi
    have := hh i hi
    rw [below_zeros] at this
    omega
  · intro hh i hi
    have := hh i hi
    rw [below_zeros]
    omega
/-- The rank of what goes on a beginning, among all that do. -/
def rkU (S : Shp) : List Int → List Nat → Nat
  | _, [] => 0
  | p, x :: r => sumTo (fun y => NU S (p ++ [(y : Int)])) x + rkU S (p ++ [(x : Int)]) r
theorem u_rk_append (S : Shp) : ∀ (r s : List Nat) (p : List Int), rkU S p (r ++ s) = rkU S p r + rkU S (p ++ toI r) s
  | [], s, p => by simp [rkU, toI]
  | x :: r, s, p => by
    simp only [List.cons_append, rkU]
    rw [u_rk_append S r s, snoc_toI]
    omega
theorem u_rk_zeros (S : Shp) : ∀ (k : Nat) (p : List Int), rkU S p (List.replicate k 0) = 0
  | 0, _ => rfl
  | k + 1, p => by simp only [List.replicate, rkU, sumTo]; rw [u_rk_zeros S k]
theorem u_zpark_take {S : Shp} {p q : List Int} (hl : (p ++ q).length ≤ S.n) (h : zf S (p ++ q)) : zf S p := by
  intro i hi
  have := h i hi
  have h2 : below (p ++ q) ((i : Int) + 1) = below p ((i : Int) + 1) + below q ((i : Int) + 1) := by unfold below; rw [List.countP_append]
  have h3 := below_le q ((i : Int) + 1)
  simp at *
  omega
theorem u_rk_lt {S : Shp} : ∀ (r : List Nat) (p : List Int), p.length + r.length = S.n → (∀ x ∈ r, x < S.A) → zf S (p ++ toI r) → rkU S p r < NU S p
  | [], p, h, _, hz => by
    rw [u_N_full (by simpa using h), if_pos (by simpa [toI] using hz)]
    simp [rkU]
  | x :: r, p, h, hx, hz => by
    have ih := u_rk_lt r (p ++ [(x : Int)]) (by simp at *; omega) (fun y hy => hx y (by simp [hy])) (by rw [← snoc_toI]; exact hz)
    rw [u_N_split (by simp at h; omega)]
    have := sumTo_mono (fun y => NU S (p ++ [(y : Int)])) (show x + 1 ≤ S.A from hx x (by simp))
    simp only [sumTo] at this
    simp only [rkU]
    omega

/-- What goes on a beginning with a rank, k numbers. -/
def atU (S : Shp) : Nat → List Int → Nat → List Nat
  | 0, _, _ => []
  | k + 1, p, R => (pick (fun y => NU S (p ++ [(y : Int)])) S.A 0 R).1 :: atU S k (p ++ [((pick (fun y => NU S (p ++ [(y : Int)])) S.A 0 R).1 : Int)]) (pick (fun y => NU S (p ++ [(y : Int)])) S.A 0 R).2
theorem u_length_atL (S : Shp) : ∀ (k : Nat) (p : List Int) (R : Nat), (atU S k p R).length = k
  | 0, _, _ => rfl
  | k + 1, p, R => by simp [atU, u_length_atL S k]
theorem u_at_step {S : Shp} {k : Nat} {p : List Int} {R x r : Nat} (h : IsPick (fun y => NU S (p ++ [(y : Int)])) R x r) (hp : p.length < S.n) (hR : R < NU S p) : atU S (k + 1) p R = x :: atU S k (p ++ [(x : Int)]) r := by
  rw [u_N_split hp] at hR
  simp only [atU]
  rw [pick_eq h hR]
theorem u_at_rk {S : Shp} : ∀ (r : List Nat) (p : List Int), p.length + r.length = S.n → (∀ x ∈ r, x < S.A) → zf S (p ++ toI r) → atU S r.length p (rkU S p r) = r
  | [], _, _, _, _ => rfl
  | x :: r, p, h, hx, hz => by
    have hx' : ∀ y ∈ r, y < S.A := fun y hy => hx y (by simp [hy])
    have hz' : zf S (p ++ [(x : Int)] ++ toI r) := by rw [← snoc_toI]; exact hz
    have hl : (p ++ [(x : Int)]).length + r.length = S.n := by simp at *; omega
    have h1 := u_rk_lt r (p ++ [(x : Int)]) hl hx' hz'
    have h2 := u_rk_lt (x :: r) p h hx hz
    rw [List.length_cons, u_at_step (x := x) (r := rkU S (p ++ [(x : Int)]) r) (R := rkU S p (x :: r)) ⟨rfl, h1⟩ (by simp at h; omega) h2, u_at_rk r _ hl hx' hz']
theorem u_rk_at {S : Shp} : ∀ (k : Nat) (p : List Int) (R : Nat), p.length + k = S.n → R < NU S p → rkU S p (atU S k p R) = R ∧ (∀ x ∈ atU S k p R, x < S.A) ∧ zf S (p ++ toI (atU S k p R))
  | 0, p, R, h, hR => by
    rw [u_N_full (by simpa using h)] at hR
    split at hR
    · exact ⟨by simp [atU, rkU]; omega, by simp [atU], by simpa [atU, toI]⟩
    · omega
  | k + 1, p, R, h, hR => by
    have hR' := hR
    rw [u_N_split (by omega)] at hR'
    obtain ⟨⟨h1, h2⟩, h3⟩ := pick_is (f := fun y => NU S (p ++ [(y : Int)])) (R := R) S.A 0 R (by simp [sumTo]) (by simpa using hR')
    rw [u_at_step ⟨h1, h2⟩ (by omega) hR]
    generalize (pick (fun y => NU S (p ++ [(y : Int)])) S.A 0 R).1 = x at *
    generalize (pick (fun y => NU S (p ++ [(y : Int)])) S.A 0 R).2 = r at *
    obtain ⟨i1, i2, i3⟩ := u_rk_at k (p ++ [(x : Int)]) r (by simp; omega) h2
    refine ⟨by simp only [rkU]; rw [i1]; exact h1.symm, ?_, by rw [snoc_toI]; exact i3⟩
    intro y hy
    rcases List.mem_cons.1 hy with rfl | hy
    · omega
    · exact i2 y hy

/-- No greater favourite of a car parks: it is the last one that goes on the beginning. -/
theorem u_rk_last {S : Shp} : ∀ (r : List Nat) (p : List Int), p.length + r.length = S.n → (∀ x ∈ r, x < S.A) → zf S (p ++ toI r) →
    (∀ i (h : i < r.length), ¬ zf S (p ++ toI (r.take i) ++ [((r[i] : Nat) : Int) + 1])) → rkU S p r + 1 = NU S p
  | [], p, h, _, hz, _ => by
    rw [u_N_full (by simpa using h), if_pos (by simpa [toI] using hz)]
    simp [rkU]
  | x :: r, p, h, hx, hz, hn => by
    have ih := u_rk_last r (p ++ [(x : Int)]) (by simp at *; omega) (fun y hy => hx y (by simp [hy])) (by rw [← snoc_toI]; exact hz) (fun i hi => by
      have := hn (i + 1) (by simpa using hi)
      rw [List.take_succ_cons, snoc_toI] at this
      simpa using this)
    have h0 := hn 0 (by simp)
    simp only [List.take_zero, toI, List.map_nil, List.append_nil, List.getElem_cons_zero] at h0
    rw [u_N_split (by simp at h; omega)]
    simp only [rkU]
    have hxn : x < S.A := hx x (by simp)
    have hz0 : ∀ k, x + 1 + k ≤ S.A → sumTo (fun y => NU S (p ++ [(y : Int)])) (x + 1 + k) = sumTo (fun y => NU S (p ++ [(y : Int)])) (x + 1) := by
      intro k
      induction k with
      | zero => intro _; rfl
      | succ k ih2 =>
        intro hk
        rw [show x + 1 + (k + 1) = (x + 1 + k) + 1 from rfl, sumTo, ih2 (by omega), u_N_zero_from h0 (by omega), Nat.add_zero]
    have := hz0 (S.A - (x + 1)) (by omega)
    rw [show x + 1 + (S.A - (x + 1)) = S.A by omega] at this
    rw [this, sumTo]
    omega
/-- The next one: the last car whose favourite can be greater, zeros behind it. -/
theorem u_rk_next {S : Shp} {t r : List Nat} {x : Nat} (h : t.length + (1 + r.length) = S.n) (hx : ∀ y ∈ t ++ x :: r, y < S.A) (hz : zf S (toI (t ++ x :: r)))
    (hn : ∀ i (h : i < r.length), ¬ zf S (toI (t ++ x :: r.take i) ++ [((r[i] : Nat) : Int) + 1])) :
    rkU S [] (t ++ (x + 1) :: List.replicate r.length 0) = rkU S [] (t ++ x :: r) + 1 := by
  have hl := u_rk_last r (toI t ++ [(x : Int)]) (by simp [length_toI]; omega) (fun y hy => hx y (by simp [hy])) (by
    rw [toI_append, toI_cons] at hz
    simpa using hz) (fun i hi => by
    have := hn i hi
    rw [toI_append, toI_cons] at this
    simpa using this)
  rw [u_rk_append, u_rk_append]
  simp only [rkU, List.nil_append, sumTo, u_rk_zeros]
  omega
/-- The parking functions that go on a beginning, in order. -/
def liU (S : Shp) : Nat → List Int → List (List Int)
  | 0, p => if zf S p then [p] else []
  | k + 1, p => (List.range S.A).flatMap fun (x : Nat) => liU S k (p ++ [(x : Int)])
theorem u_list_at {S : Shp} : ∀ (k : Nat) (p : List Int), p.length + k = S.n → liU S k p = (List.range (NU S p)).map fun R => p ++ toI (atU S k p R)
  | 0, p, h => by
    rw [u_N_full (by simpa using h)]
    simp only [liU]
    split
    · simp [atU, toI, List.range_succ]
    · rfl
  | k + 1, p, h => by
    simp only [liU]
    rw [u_N_split (by omega), range_blocks]
    unfold List.flatMap
    congr 1
    apply List.map_congr_left
    intro x hx
    rw [List.mem_range] at hx
    rw [u_list_at k (p ++ [(x : Int)]) (by simp; omega)]
    apply List.map_congr_left
    intro R hR
    rw [List.mem_range] at hR
    have hlt : sumTo (fun x => NU S (p ++ [(x : Int)])) x + R < NU S p := by
      rw [u_N_split (by omega)]
      have := sumTo_mono (fun y => NU S (p ++ [(y : Int)])) (show x + 1 ≤ S.A from hx)
      simp only [sumTo] at this
      omega
    rw [u_at_step ⟨rfl, hR⟩ (by omega) hlt, snoc_toI]

/-! Lists under bounds. -/
def numB (bs : List Int) : Nat := (bs.foldl max (-1) + 1).toNat
def shp (bs : List Int) : Shp := ⟨numB bs, bs.length, fun j => below bs ((j : Int) + 1)⟩
def Bnd (bs : List Int) : Prop := bs.Pairwise (· ≤ ·) ∧ ∀ b ∈ bs, 0 ≤ b
def undTo (ss bs : List Int) (k : Nat) : Bool := (List.range k).all fun i => decide (0 ≤ nth ss i) && decide (nth ss i ≤ nth bs i)
/-- In increasing order each number is at least 0 and at most its bound. -/
def und (bs xs : List Int) : Bool := undTo (insSort xs) bs xs.length
theorem undTo_succ {ss bs : List Int} {k : Nat} : undTo ss bs (k + 1) = (undTo ss bs k && (decide (0 ≤ nth ss k) && decide (nth ss k ≤ nth bs k))) := by simp [undTo, List.range_succ]
theorem undTo_iff {ss bs : List Int} {k : Nat} : undTo ss bs k = true ↔ ∀ i, i < k → 0 ≤ nth ss i ∧ nth ss i ≤ nth bs i := by simp [undTo]
theorem undTo_no {ss bs : List Int} {k n : Nat} (hk : k < n) (h : ¬ (0 ≤ nth ss k ∧ nth ss k ≤ nth bs k)) : undTo ss bs n = false := by
  rw [Bool.eq_false_iff]
  intro hh
  exact h (undTo_iff.1 hh k hk)
theorem below_perm {xs ys : List Int} (h : xs.Perm ys) (b : Int) : below xs b = below ys b := h.countP_eq _
theorem below_cut (xs : List Int) (k : Nat) (b : Int) : below xs b = below (xs.take k) b + below (xs.drop k) b := by
  unfold below
  rw [← List.countP_append, List.take_append_drop]
theorem below_sorted {ys : List Int} (h : ys.Pairwise (· ≤ ·)) {k : Nat} (hk : k < ys.length) (b : Int) : k < below ys b ↔ nth ys k < b := by
  constructor
  · intro hb
    apply Classical.byContradiction
    intro hn
    have hz : below (ys.drop k) b = 0 := by
      unfold below
      rw [List.countP_eq_zero]
      intro y hy
      obtain ⟨i, hi, rfl⟩ := mem_nth hy
      rw [List.length_drop] at hi
      rw [nth_dropP]
      have := sorted_nth h (i := k) (j := k + i) (by omega) (by omega)
      simp
      omega
    have h1 := below_cut ys k b
    have h2 := below_le (ys.take k) b
    rw [List.length_take] at h2
    omega
  · intro hlt
    have h1 : below (ys.take (k + 1)) b = (ys.take (k + 1)).length := by
      unfold below
      rw [List.countP_eq_length]
      intro y hy
      obtain ⟨i, hi, rfl⟩ := mem_nth hy
      rw [List.length_take] at hi
      rw [nth_take (by omega)]
      have := sorted_nth h (i := i) (j := k) (by omega) hk
      simp
      omega
    have h2 := below_cut ys (k + 1) b
    rw [h1, List.length_take] at h2
    omega
theorem foldl_max_ge : ∀ (bs : List Int) (m : Int), m ≤ bs.foldl max m ∧ ∀ b ∈ bs, b ≤ bs.foldl max m
  | [], m => by simp
  | b :: bs, m => by
    obtain ⟨h1, h2⟩ := foldl_max_ge bs (max m b)
    simp only [List.foldl_cons]
    refine ⟨by omega, fun x hx => ?_⟩
    rcases List.mem_cons.1 hx with rfl | hx
    · omega
    · exact h2 x hx
theorem foldl_max_mem : ∀ (bs : List Int) (m : Int), bs.foldl max m = m ∨ bs.foldl max m ∈ bs
  | [], m => by simp
  | b :: bs, m => by
    simp only [List.foldl_cons]
    rcases foldl_max_mem bs (max m b) with h | h
    · rcases Int.le_total m b with h1 | h1
      · right; rw [h, Int.max_eq_right h1]; simp
      · left; rw [h, Int.max_eq_left h1]
    · right; exact List.mem_cons_of_mem _ h
theorem lt_numB {bs : List Int} {b : Int} (h : b ∈ bs) (h0 : 0 ≤ b) : b.toNat < numB bs := by
  have := (foldl_max_ge bs (-1)).2 b h
  unfold numB
  omega
theorem numB_top {bs : List Int} (h : Bnd bs) (hl : 0 < bs.length) : 0 < numB bs ∧ ∀ b ∈ bs, b < (numB bs : Int) := by
  have h1 := lt_numB (nth_mem hl) (h.2 _ (nth_mem hl))
  refine ⟨by omega, fun b hb => ?_⟩
  have := lt_numB hb (h.2 b hb)
  have := h.2 b hb
  omega
theorem below_full {bs : List Int} {b : Int} (h : ∀ x ∈ bs, x < b) : below bs b = bs.length := by
  unfold below
  rw [List.countP_eq_length]
  intro x hx
  simpa using h x hx
theorem und_iff {bs xs : List Int} (hb : Bnd bs) (hl : xs.length = bs.length) : und bs xs = true ↔ (∀ x ∈ xs, 0 ≤ x) ∧ zf (shp bs) xs := by
  have hs := insSort_sorted xs
  have hp := insSort_perm xs
  have hl2 := length_insSort xs
  unfold und
  rw [undTo_iff]
  have hz : zf (shp bs) xs ↔ ∀ i : Nat, i < numB bs → below bs ((i : Int) + 1) ≤ below xs ((i : Int) + 1) := by
    unfold zf
    simp only [shp, hl, Nat.sub_self, Nat.add_zero]
  rw [hz]
  constructor
  · intro hf
    refine ⟨fun x hx => ?_, fun i hi => ?_⟩
    · obtain ⟨k, hk, rfl⟩ := mem_nth (hp.mem_iff.2 hx)
      exact (hf k (by omega)).1
    · obtain ⟨c, hc⟩ : ∃ c, below bs ((i : Int) + 1) = c := ⟨_, rfl⟩
      rw [hc]
      cases c with
      | zero => exact Nat.zero_le _
      | succ k =>
        have hk : k < bs.length := by have := below_le bs ((i : Int) + 1); omega
        have h1 := (below_sorted hb.1 hk ((i : Int) + 1)).1 (by omega)
        have h2 := (hf k (by omega)).2
        have h3 := (below_sorted hs (k := k) (by omega) ((i : Int) + 1)).2 (by omega)
        rw [below_perm hp] at h3
        omega
  · rintro ⟨h0, hf⟩ k hk
    refine ⟨h0 _ (hp.mem_iff.1 (nth_mem (by omega))), ?_⟩
    have hkb : k < bs.length := by omega
    have hm := nth_mem hkb
    have hv := hb.2 _ hm
    have h1 := hf (nth bs k).toNat (lt_numB hm hv)
    have h2 := (below_sorted hb.1 hkb (((nth bs k).toNat : Int) + 1)).2 (by omega)
    rw [← below_perm hp] at h1
    have h3 := (below_sorted hs (k := k) (by omega) (((nth bs k).toNat : Int) + 1)).1 (by omega)
    omega
theorem und_len {bs xs : List Int} (hb : Bnd bs) (hl : xs.length = bs.length) (h : und bs xs = true) : ∀ x ∈ xs, 0 ≤ x ∧ x < (numB bs : Int) := by
  intro x hx
  have hp := insSort_perm xs
  have hl2 := length_insSort xs
  obtain ⟨k, hk, rfl⟩ := mem_nth (hp.mem_iff.2 hx)
  have h1 := undTo_iff.1 h k (by omega)
  have h2 := (numB_top hb (by omega)).2 _ (nth_mem (xs := bs) (i := k) (by omega))
  omega
/-! ### The next list -/
def nextU (bs xs : List Int) : Nat → List Int × Bool
  | 0 => ([], false)
  | c + 1 => if und bs (cand xs c) then (cand xs c, true) else nextU bs xs c
def rkB (bs xs : List Int) : Nat := rkU (shp bs) [] (toN xs)
def atB (bs : List Int) (R : Nat) : List Int := toI (atU (shp bs) bs.length [] R)
def allB' (bs : List Int) : List (List Int) := liU (shp bs) bs.length []
def cntB (bs : List Int) : Nat := NU (shp bs) []
theorem cand_und {bs : List Int} {r : List Nat} {c : Nat} (hb : Bnd bs) (hl : r.length = bs.length) (hc : c < r.length) : und bs (cand (toI r) c) = true ↔ zf (shp bs) (toI (r.take c) ++ [((r[c] : Nat) : Int) + 1]) := by
  have hl' : (cand (toI r) c).length = r.length := by rw [length_cand (by rw [length_toI]; exact hc), length_toI]
  have hz : ∀ x ∈ cand (toI r) c, 0 ≤ x := by
    intro x hx
    simp only [cand, nth_toI hc, take_toI, List.mem_append, List.mem_cons, List.mem_replicate] at hx
    rcases hx with hx | rfl | ⟨_, rfl⟩
    · obtain ⟨y, _, rfl⟩ := List.mem_map.1 hx
      omega
    · omega
    · omega
  rw [und_iff hb (by omega)]
  have hq : (toI (r.take c) ++ [((r[c] : Nat) : Int) + 1]).length = c + 1 := by simp [length_toI]; omega
  have := zf_zeros (S := shp bs) (p := toI (r.take c) ++ [((r[c] : Nat) : Int) + 1]) (by rw [hq]; simp only [shp]; omega)
  rw [← this, hq]
  have e : cand (toI r) c = toI (r.take c) ++ [((r[c] : Nat) : Int) + 1] ++ List.replicate ((shp bs).n - (c + 1)) 0 := by
    simp only [cand, nth_toI hc, take_toI, length_toI, shp, ← hl]
    simp
  rw [← e]
  exact ⟨fun h => h.2, fun h => ⟨hz, h⟩⟩
theorem und_toI {bs : List Int} {r : List Nat} (hb : Bnd bs) (hl : r.length = bs.length) (h : und bs (toI r) = true) : (∀ x ∈ r, x < (shp bs).A) ∧ zf (shp bs) (toI r) := by
  refine ⟨fun x hx => ?_, ((und_iff hb (by rw [length_toI]; exact hl)).1 h).2⟩
  have := und_len hb (by rw [length_toI]; exact hl) h x (List.mem_map.2 ⟨x, hx, rfl⟩)
  simp only [shp]
  omega
/-- What the search finds is what has the next rank. -/
theorem nextU_at {bs : List Int} {r : List Nat} (hb : Bnd bs) (hl : r.length = bs.length) (hp : und bs (toI r) = true) : ∀ c, c ≤ r.length → (∀ i, i < r.length → c ≤ i → ¬ und bs (cand (toI r) i) = true) →
    nextU bs (toI r) c = if rkB bs (toI r) + 1 < cntB bs then (atB bs (rkB bs (toI r) + 1), true) else ([], false)
  | 0, _, hn => by
    obtain ⟨hx, hz⟩ := und_toI hb hl hp
    have := u_rk_last r [] (by simpa [shp] using hl) hx (by simpa using hz) (fun i hi => by
      have := hn i hi (Nat.zero_le _)
      rw [cand_und hb hl hi] at this
      simpa using this)
    rw [if_neg]
    · rfl
    · unfold rkB cntB
      rw [toN_toI]
      omega
  | c + 1, hc, hn => by
    obtain ⟨hx, hz⟩ := und_toI hb hl hp
    have hlt : c < r.length := by omega
    simp only [nextU]
    by_cases hk : und bs (cand (toI r) c) = true
    · rw [if_pos hk]
      have hspl := take_snoc_nat hlt
      have hlen : (r.take c).length + (1 + (r.drop (c + 1)).length) = (shp bs).n := by simp [shp]; omega
      have hcn := cand_toN hlt
      have hq : (r.take c ++ (r[c] + 1) :: List.replicate (r.drop (c + 1)).length 0).length = bs.length := by simp; omega
      have hr : rkU (shp bs) [] (r.take c ++ (r[c] + 1) :: List.replicate (r.drop (c + 1)).length 0) = rkU (shp bs) [] r + 1 := by
        have := u_rk_next (S := shp bs) (t := r.take c) (r := r.drop (c + 1)) (x := r[c]) hlen (by rw [← hspl]; exact hx) (by rw [← hspl]; exact hz) (fun i hi => by
          have hi' : c + 1 + i < r.length := by simp at hi; omega
          have := hn (c + 1 + i) hi' (by omega)
          rw [cand_und hb hl hi'] at this
          have e1 : r.take c ++ r[c] :: (r.drop (c + 1)).take i = r.take (c + 1 + i) := by
            have e2 : (r.take c ++ r[c] :: r.drop (c + 1)).take (c + 1 + i) = r.take c ++ r[c] :: (r.drop (c + 1)).take i := by
              rw [List.take_append, show (c + 1 + i) - (r.take c).length = i + 1 by simp; omega, List.take_succ_cons, List.take_of_length_le (by simp; omega)]
            rw [← e2, ← hspl]
          rw [e1]
          simpa using this)
        rw [← hspl] at this
        exact this
      rw [hcn] at hk ⊢
      generalize r.take c ++ (r[c] + 1) :: List.replicate (r.drop (c + 1)).length 0 = q at *
      obtain ⟨hx2, hz2⟩ := und_toI hb hq hk
      have hlt2 := u_rk_lt q [] (by simpa [shp] using hq) hx2 (by simpa using hz2)
      rw [hr] at hlt2
      have hat := u_at_rk q [] (by simpa [shp] using hq) hx2 (by simpa using hz2)
      rw [hq, hr] at hat
      unfold rkB cntB atB
      rw [toN_toI, if_pos hlt2, hat]
    · rw [if_neg hk]
      refine nextU_at hb hl hp c (by omega) fun i hi hci => ?_
      by_cases e : i = c
      · subst e; exact hk
      · exact hn i hi (by omega)
theorem nextU_eq {bs xs : List Int} (hb : Bnd bs) (hl : xs.length = bs.length) (h : und bs xs = true) : nextU bs xs xs.length = if rkB bs xs + 1 < cntB bs then (atB bs (rkB bs xs + 1), true) else ([], false) := by
  have hx := und_len hb hl h
  obtain ⟨r, rfl⟩ : ∃ r, xs = toI r := ⟨toN xs, (toI_toN fun x hx' => (hx x hx').1).symm⟩
  have := nextU_at hb (by rw [← hl, length_toI]) h r.length (Nat.le_refl _) (fun i hi hc => by omega)
  rw [length_toI]
  exact this
theorem zeros_und {bs : List Int} (hb : Bnd bs) : und bs (List.replicate bs.length 0) = true := by
  rw [und_iff hb (by simp)]
  refine ⟨fun x hx => by have := (List.mem_replicate.1 hx).2; omega, ?_⟩
  intro i hi
  have h1 := below_zeros [] bs.length i
  have h2 := below_le bs ((i : Int) + 1)
  simp only [List.nil_append] at h1
  simp only [shp]
  rw [h1]
  simp [below] at *
  omega
/-- All of them, one behind the other. -/
theorem allB_chain {bs : List Int} (hb : Bnd bs) : Chain (fun xs => nextU bs xs xs.length) (allB' bs) ∧ (allB' bs).getD 0 [] = List.replicate bs.length 0 ∧ (allB' bs).length = cntB bs ∧
    ∀ k, k < (allB' bs).length → (allB' bs).getD k [] = atB bs k ∧ rkB bs (atB bs k) = k ∧ und bs ((allB' bs).getD k []) = true ∧ ((allB' bs).getD k []).length = bs.length := by
  have hL := u_list_at (S := shp bs) bs.length [] (by simp [shp])
  simp only [List.nil_append] at hL
  have hlen : (allB' bs).length = cntB bs := by unfold allB' cntB; rw [hL, List.length_map, List.length_range]
  have hget : ∀ k, k < cntB bs → (allB' bs).getD k [] = atB bs k := by
    intro k hk
    unfold allB' atB
    rw [hL]
    unfold cntB at hk
    simp [hk]
  have hat : ∀ k, k < cntB bs → rkB bs (atB bs k) = k ∧ und bs (atB bs k) = true ∧ (atB bs k).length = bs.length := by
    intro k hk
    obtain ⟨a, b, c⟩ := u_rk_at (S := shp bs) bs.length [] k (by simp [shp]) hk
    have hl : (atB bs k).length = bs.length := by unfold atB; rw [length_toI, u_length_atL]
    refine ⟨by unfold rkB atB; rw [toN_toI]; exact a, ?_, hl⟩
    rw [und_iff hb hl]
    refine ⟨fun x hx => by unfold atB at hx; obtain ⟨y, _, rfl⟩ := List.mem_map.1 hx; omega, by simpa [atB] using c⟩
  have hz : rkB bs (List.replicate bs.length 0) = 0 := by
    unfold rkB toN
    rw [List.map_replicate]
    exact u_rk_zeros _ _ _
  have hpos : 0 < cntB bs := by
    have h0 := zeros_und hb
    have he : List.replicate bs.length (0 : Int) = toI (List.replicate bs.length 0) := by simp [toI]
    rw [he] at h0
    obtain ⟨h1, h2⟩ := und_toI hb (by simp) h0
    have := u_rk_lt (S := shp bs) (List.replicate bs.length 0) [] (by simp [shp]) h1 (by simpa using h2)
    rw [u_rk_zeros] at this
    exact this
  refine ⟨⟨by omega, fun k hk => ?_, ?_⟩, ?_, hlen, fun k hk => ?_⟩
  · rw [hlen] at hk
    obtain ⟨a1, a2, a3⟩ := hat k (by omega)
    rw [hget k (by omega), hget (k + 1) hk]
    show nextU _ _ _ = _
    rw [nextU_eq hb a3 a2, a1, if_pos hk]
  · obtain ⟨a1, a2, a3⟩ := hat (cntB bs - 1) (by omega)
    rw [hlen, hget _ (by omega)]
    show nextU _ _ _ = _
    rw [nextU_eq hb a3 a2, a1, if_neg (by omega)]
  · rw [hget 0 hpos]
    have h0 := zeros_und hb
    have he : List.replicate bs.length (0 : Int) = toI (List.replicate bs.length 0) := by simp [toI]
    have h0' := h0
    rw [he] at h0'
    obtain ⟨h1, h2⟩ := und_toI hb (by simp) h0'
    have h3 := u_at_rk (S := shp bs) (List.replicate bs.length 0) [] (by simp [shp]) h1 (by simpa using h2)
    rw [u_rk_zeros, List.length_replicate] at h3
    unfold atB
    rw [h3, ← he]
  · rw [hlen] at hk
    obtain ⟨a1, a2, a3⟩ := hat k hk
    rw [hget k hk]
    exact ⟨rfl, a1, a2, a3⟩
end Go.Proofs.YtakadjhbomggbaaGreat

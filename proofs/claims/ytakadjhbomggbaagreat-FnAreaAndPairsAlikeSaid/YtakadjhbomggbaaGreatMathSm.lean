/- Lists under bounds that do not fall; slopes; streets as bounds. -/
import Derived.Test.YtakadjhbomggbaaGreatMathSl
import Derived.Test.YtakadjhbomggbaaGreatMathG
import Derived.Test.YtakadjhbomggbaaGreatMathQ
namespace Go.Proofs.YtakadjhbomggbaaGreat
open Go.RowKit

/-! ### Walks: lists that do not fall -/
def RunTo {α : Type} (f : α → Option α) : List α → Option α → Prop
  | [], _ => False
  | [x], t => f x = t
  | x :: y :: r, t => f x = some y ∧ RunTo f (y :: r) t
theorem RunTo.append {α : Type} {f : α → Option α} {m : α} {t : Option α} {L2 : List α} (h2 : RunTo f (m :: L2) t) : ∀ {L1 : List α}, RunTo f L1 (some m) → RunTo f (L1 ++ m :: L2) t
  | [], h => h.elim
  | [_], h => ⟨h, h2⟩
  | _ :: y :: r, h => ⟨h.1, RunTo.append h2 (L1 := y :: r) h.2⟩
theorem RunTo.map {α β : Type} {g : α → Option α} {f : β → Option β} {h : α → β} {t : Option β} (h1 : ∀ y z, g y = some z → f (h y) = some (h z)) (h2 : ∀ y, g y = none → f (h y) = t) : ∀ {L : List α}, RunTo g L none → RunTo f (L.map h) t
  | [], hh => hh.elim
  | [x], hh => h2 x hh
  | x :: y :: r, hh => ⟨h1 x y hh.1, RunTo.map h1 h2 (L := y :: r) hh.2⟩
/-- All walks under bounds from a number on. -/
def wlk : List Int → Int → List (List Int)
  | [], _ => [[]]
  | b :: bs, lo => (upFrom lo (b + 1 - lo).toNat).flatMap fun x => (wlk bs x).map (x :: ·)
/-- The next one. -/
def nx : List Int → List Int → Option (List Int)
  | b :: bs, x :: xs => match nx bs xs with
    | some ys => some (x :: ys)
    | none => if x = b then none else some (List.replicate (bs.length + 1) (x + 1))
  | _, _ => none
theorem upFrom_cons (x : Int) (k : Nat) : upFrom x (k + 1) = x :: upFrom (x + 1) k := rfl
theorem wlk_head : ∀ (bs : List Int) (lo : Int), bs.Pairwise (· ≤ ·) → (∀ b ∈ bs, lo ≤ b) → ∃ L, wlk bs lo = List.replicate bs.length lo :: L
  | [], lo, _, _ => ⟨[], rfl⟩
  | b :: bs, lo, hp, hb => by
    have h1 := hb b (by simp)
    obtain ⟨k, hk⟩ : ∃ k, (b + 1 - lo).toNat = k + 1 := ⟨(b - lo).toNat, by omega⟩
    obtain ⟨L, hL⟩ := wlk_head bs lo (List.pairwise_cons.1 hp).2 (fun c hc => hb c (by simp [hc]))
    simp only [wlk, hk, upFrom_cons, List.flatMap_cons, hL, List.map_cons, List.length_cons, List.replicate_succ, List.cons_append]
    exact ⟨_, rfl⟩
theorem wlk_run : ∀ (bs : List Int) (lo : Int), bs.Pairwise (· ≤ ·) → (∀ b ∈ bs, lo ≤ b) → RunTo (nx bs) (wlk bs lo) none
  | [], lo, _, _ => rfl
  | b :: bs, lo, hp, hb => by
    have hp2 := (List.pairwise_cons.1 hp)
    have key : ∀ (k : Nat) (x : Int), x + k = b → RunTo (nx (b :: bs)) ((upFrom x (k + 1)).flatMap fun x => (wlk bs x).map (x :: ·)) none := by
      intro k
      induction k with
      | zero =>
        intro x hx
        have hxb : x = b := by omega
        subst hxb
        simp only [upFrom, List.flatMap_cons, List.flatMap_nil, List.append_nil]
        refine RunTo.map (g := nx bs) ?_ ?_ (wlk_run bs x hp2.2 (fun c hc => hp2.1 c hc))
        · intro y z h
          simp only [nx, h]
        · intro y h
          simp [nx, h]
      | succ k ih =>
        intro x hx
        have h1 := ih (x + 1) (by omega)
        rw [upFrom_cons, List.flatMap_cons]
        have hblk : ∀ c ∈ bs, x + 1 ≤ c := fun c hc => by have := hp2.1 c hc; omega
        obtain ⟨L, hL⟩ := wlk_head (b :: bs) (x + 1) hp (fun c hc => by
          rcases List.mem_cons.1 hc with rfl | hc
          · omega
          · exact hblk c hc)
        have e : wlk (b :: bs) (x + 1) = (upFrom (x + 1) (k + 1)).flatMap fun x => (wlk bs x).map (x :: ·) := by
          simp only [wlk]
          rw [show (b + 1 - (x + 1)).toNat = k + 1 by omega]
        rw [← e, hL] at h1 ⊢
        refine RunTo.append h1 (RunTo.map (g := nx bs) ?_ ?_ (wlk_run bs x hp2.2 (fun c hc => by have := hblk c hc; omega)))
        · intro y z h
          simp only [nx, h]
        · intro y h
          simp only [nx, h]
          rw [if_neg (by omega)]
          simp
    simp only [wlk]
    have := hb b (by simp)
    have := key (b - lo).toNat lo (by omega)
    rw [show (b + 1 - lo).toNat = (b - lo).toNat + 1 by omega]
    exact this
/-- The next one, looked for from the last number down. -/
def nextW (bs xs : List Int) : Nat → List Int × Bool
  | 0 => ([], false)
  | c + 1 => if nth xs c = nth bs c then nextW bs xs c else (xs.take c ++ List.replicate (xs.length - c) (nth xs c + 1), true)
def optL : Option (List Int) → List Int × Bool
  | some ys => (ys, true)
  | none => ([], false)
theorem nextW_cons (b : Int) (bs : List Int) (x : Int) (xs : List Int) : ∀ c, nextW (b :: bs) (x :: xs) (c + 1) = if (nextW bs xs c).2 = true then (x :: (nextW bs xs c).1, true) else if x = b then ([], false) else (List.replicate (xs.length + 1) (x + 1), true)
  | 0 => by simp [nextW, nth]
  | c + 1 => by
    have ih := nextW_cons b bs x xs c
    rw [nextW, nth_cons_succ, nth_cons_succ]
    by_cases e : nth xs c = nth bs c
    · rw [if_pos e, ih, nextW, if_pos e]
    · rw [if_neg e, nextW, if_neg e]
      simp
theorem nextW_nx : ∀ (bs xs : List Int), xs.length = bs.length → nextW bs xs xs.length = optL (nx bs xs)
  | [], [], _ => rfl
  | b :: bs, x :: xs, h => by
    have ih := nextW_nx bs xs (by simpa using h)
    rw [List.length_cons, nextW_cons, ih]
    simp only [nx]
    cases hn : nx bs xs with
    | some ys => simp [optL]
    | none =>
      have : xs.length = bs.length := by simpa using h
      simp only [optL, this]
      by_cases e : x = b
      · simp [e]
      · simp [e]
theorem run_chain {f : List Int → Option (List Int)} {g : List Int → List Int × Bool} : ∀ {L : List (List Int)}, (∀ x ∈ L, g x = optL (f x)) → RunTo f L none → Chain g L
  | [], _, h => h.elim
  | [x], hg, h => by
    refine ⟨by simp, fun k hk => by simp at hk, ?_⟩
    have := hg x (by simp)
    have h' : f x = none := h
    simp [this, h', optL]
  | x :: y :: r, hg, h => by
    obtain ⟨_, h2, h3⟩ := run_chain (L := y :: r) (fun z hz => hg z (by simp [hz])) h.2
    refine ⟨by simp, fun k hk => ?_, by simpa using h3⟩
    match k, hk with
    | 0, _ =>
      have := hg x (by simp)
      have h' : f x = some y := h.1
      simp [this, h', optL]
    | k + 1, hk => simpa using h2 k (by simpa using hk)
/-- What walks are. -/
theorem wlk_mem : ∀ {bs : List Int} {lo : Int} {xs : List Int}, xs ∈ wlk bs lo ↔ xs.length = bs.length ∧ (lo :: xs).Pairwise (· ≤ ·) ∧ ∀ i, i < bs.length → nth xs i ≤ nth bs i
  | [], lo, xs => by
    simp only [wlk, List.mem_singleton]
    constructor
    · rintro rfl; simp
    · rintro ⟨h, _⟩; exact List.eq_nil_of_length_eq_zero h
  | b :: bs, lo, xs => by
    simp only [wlk, List.mem_flatMap, List.mem_map]
    constructor
    · rintro ⟨x, hx, ys, hys, rfl⟩
      obtain ⟨h1, h2, h3⟩ := wlk_mem.1 hys
      have hx' := (mem_upFrom _ _ _).1 hx
      refine ⟨by simp [h1], ?_, ?_⟩
      · rw [List.pairwise_cons]
        refine ⟨fun z hz => ?_, h2⟩
        rcases List.mem_cons.1 hz with rfl | hz
        · omega
        · have := (List.pairwise_cons.1 h2).1 z hz; omega
      · intro i hi
        match i, hi with
        | 0, _ => simp only [nth_cons_zero]; omega
        | i + 1, hi => rw [nth_cons_succ, nth_cons_succ]; exact h3 i (by simpa using hi)
    · rintro ⟨h1, h2, h3⟩
      match xs, h1 with
      | x :: ys, h1 =>
        have hp := List.pairwise_cons.1 h2
        have h0 := h3 0 (by simp)
        simp only [nth_cons_zero] at h0
        have hlx := hp.1 x (by simp)
        refine ⟨x, (mem_upFrom _ _ _).2 ⟨hlx, by omega⟩, ys, wlk_mem.2 ⟨by simpa using h1, hp.2, fun i hi => ?_⟩, rfl⟩
        have := h3 (i + 1) (by simpa using hi)
        rwa [nth_cons_succ, nth_cons_succ] at this
def allW (bs : List Int) : List (List Int) := wlk bs 0
theorem allW_chain {bs : List Int} (hb : Bnd bs) : Chain (fun xs => nextW bs xs xs.length) (allW bs) ∧ (allW bs).getD 0 [] = List.replicate bs.length 0 ∧
    ∀ k, k < (allW bs).length → ((allW bs).getD k []).length = bs.length ∧ ((allW bs).getD k []).Pairwise (· ≤ ·) ∧ ∀ i, i < bs.length → 0 ≤ nth ((allW bs).getD k []) i ∧ nth ((allW bs).getD k []) i ≤ nth bs i := by
  refine ⟨run_chain (fun x hx => nextW_nx bs x (wlk_mem.1 hx).1) (wlk_run bs 0 hb.1 hb.2), ?_, fun k hk => ?_⟩
  · obtain ⟨L, hL⟩ := wlk_head bs 0 hb.1 hb.2
    unfold allW
    rw [hL]
    rfl
  · have hm : (allW bs).getD k [] ∈ wlk bs 0 := by
      simp only [List.getD_eq_getElem?_getD, List.getElem?_eq_getElem hk, Option.getD_some]
      exact List.getElem_mem hk
    obtain ⟨h1, h2, h3⟩ := wlk_mem.1 hm
    have hp := List.pairwise_cons.1 h2
    exact ⟨h1, hp.2, fun i hi => ⟨hp.1 _ (nth_mem (by omega)), h3 i hi⟩⟩
/-! ### Slopes -/
def bnds (n a : Nat) : List Int := (List.range n).map fun (i : Nat) => ((i * a / n : Nat) : Int)
def slN (n a : Nat) : Bool := decide (1 ≤ n) && decide (n ≤ 6) && decide (1 ≤ a) && decide (a ≤ 13) && decide (Nat.gcd n a = 1)
def slB (n a : Int) : Bool := inB n 1 6 && inB a 1 13 && decide (Nat.gcd n.toNat a.toNat = 1)
theorem slB_iff {n a : Int} : slB n a = true ↔ ∃ m q : Nat, n = m ∧ a = q ∧ slN m q = true := by
  simp only [slB, slN, Bool.and_eq_true, decide_eq_true_eq, inB_iff]
  constructor
  · rintro ⟨⟨⟨h1, h2⟩, h3, h4⟩, h5⟩
    exact ⟨n.toNat, a.toNat, by omega, by omega, ⟨⟨⟨⟨by omega, by omega⟩, by omega⟩, by omega⟩, h5⟩⟩
  · rintro ⟨m, q, rfl, rfl, ⟨⟨⟨⟨h1, h2⟩, h3⟩, h4⟩, h5⟩⟩
    exact ⟨⟨⟨by omega, by omega⟩, by omega, by omega⟩, by simpa using h5⟩
theorem slN_iff {n a : Nat} : slN n a = true ↔ (1 ≤ n ∧ n ≤ 6) ∧ (1 ≤ a ∧ a ≤ 13) ∧ Nat.gcd n a = 1 := by
  simp only [slN, Bool.and_eq_true, decide_eq_true_eq]
  constructor
  · rintro ⟨⟨⟨⟨h1, h2⟩, h3⟩, h4⟩, h5⟩; exact ⟨⟨h1, h2⟩, ⟨h3, h4⟩, h5⟩
  · rintro ⟨⟨h1, h2⟩, ⟨h3, h4⟩, h5⟩; exact ⟨⟨⟨⟨h1, h2⟩, h3⟩, h4⟩, h5⟩
theorem slB_nat (n a : Nat) : slB (n : Int) (a : Int) = slN n a := by
  rw [Bool.eq_iff_iff, slB_iff]
  constructor
  · rintro ⟨m, q, h1, h2, h3⟩
    have : n = m := by omega
    have : a = q := by omega
    subst n a; exact h3
  · intro h; exact ⟨n, a, rfl, rfl, h⟩
theorem length_bnds (n a : Nat) : (bnds n a).length = n := by simp [bnds]
theorem nth_bnds {n a i : Nat} (h : i < n) : nth (bnds n a) i = ((i * a / n : Nat) : Int) := by simp [nth, bnds, h]
theorem bnds_bnd (n a : Nat) : Bnd (bnds n a) := by
  refine ⟨?_, fun b hb => ?_⟩
  · unfold bnds
    rw [List.pairwise_map]
    refine List.Pairwise.imp ?_ (List.pairwise_lt_range (n := n))
    intro i j hij
    exact Int.ofNat_le.2 (Nat.div_le_div_right (Nat.mul_le_mul_right _ (Nat.le_of_lt hij)))
  · obtain ⟨i, _, rfl⟩ := List.mem_map.1 hb
    exact Int.natCast_nonneg _
theorem bnds_lt {n a : Nat} (ha : 1 ≤ a) : ∀ b ∈ bnds n a, b < (a : Int) := by
  intro b hb
  obtain ⟨i, hi, rfl⟩ := List.mem_map.1 hb
  rw [List.mem_range] at hi
  have : i * a / n < a := by
    rw [Nat.div_lt_iff_lt_mul (by omega), Nat.mul_comm a n]
    exact Nat.mul_lt_mul_of_pos_right hi ha
  omega
theorem numB_slope {n a : Nat} (ha : 1 ≤ a) : numB (bnds n a) ≤ a := by
  unfold numB
  rcases foldl_max_mem (bnds n a) (-1) with h | h
  · omega
  · have := bnds_lt ha _ h
    omega
theorem cnt_slope : ∀ n, n < 7 → ∀ a, a < 14 → slN n a = true → cntB (bnds n a) = a ^ (n - 1) := by decide +kernel
/-- What is small enough to be counted. -/
def Sml (bs : List Int) : Prop := Bnd bs ∧ bs.length ≤ 8 ∧ numB bs ≤ 13 ∧ numB bs ^ bs.length ≤ 16777216
theorem pow_slope : ∀ n, n < 7 → ∀ a, a < 14 → a ^ n ≤ 4826809 := by decide +kernel
theorem sml_bnds {n a : Nat} (h : slN n a = true) : Sml (bnds n a) := by
  obtain ⟨⟨h1, h2⟩, ⟨h3, h4⟩, _⟩ := slN_iff.1 h
  have := numB_slope (n := n) h3
  refine ⟨bnds_bnd n a, by rw [length_bnds]; omega, by omega, ?_⟩
  rw [length_bnds]
  have := pow_slope n (by omega) (numB (bnds n a)) (by omega)
  omega
theorem NU_le {bs p : List Int} (h : Sml bs) : NU (shp bs) p ≤ 16777216 := by
  obtain ⟨_, h1, h2, h3⟩ := h
  unfold NU
  refine Nat.le_trans (U_le _ _ _ (by simp only [shp]; omega) _ (by simp only [shp]; omega)) ?_
  simp only [shp]
  by_cases h0 : numB bs = 0
  · rw [h0]
    cases bs.length - p.length with
    | zero => simp
    | succ k => simp
  · exact Nat.le_trans (Nat.pow_le_pow_right (by omega) (by omega)) h3
theorem U_small {bs : List Int} (h : Sml bs) (b : Nat → Nat) {P L : Nat} (hP : P ≤ numB bs) (hL : L ≤ bs.length) : ∀ s, s ≤ L → U (shp bs).need b P s ≤ 16777216 := fun s hs => by
  obtain ⟨_, h1, h2, h3⟩ := h
  refine Nat.le_trans (U_le _ _ _ (by omega) _ (by omega)) ?_
  by_cases h0 : numB bs = 0
  · obtain rfl : P = 0 := by omega
    cases s with
    | zero => simp
    | succ k => simp
  · refine Nat.le_trans (Nat.pow_le_pow_left hP _) ?_
    exact Nat.le_trans (Nat.pow_le_pow_right (by omega) (by omega)) h3
/-- Behind the greatest bound nothing more is chosen. -/
theorem U_past {d b : Nat → Nat} {n m P s : Nat} (hs : s = n - m) (hm : m ≤ n) (hb : ∀ i, b i ≤ m) (hmono : ∀ i, b i ≤ b (i + 1)) (hP : d P = n) (hQ : d (P + 1) = n) : U d b (P + 1 + 1) s = U d b (P + 1) s := by
  have hz : ∀ k, k < s → U d b (P + 1) k = 0 := by
    intro k hk
    simp only [U]
    rw [if_neg]
    have := hb P
    omega
  have key : sumTo (fun k => chs s k * U d b (P + 1) k) (s + 1) = U d b (P + 1) s := by
    rw [sumTo, sumTo_zero fun k hk => by rw [hz k hk, Nat.mul_zero], chs_self]
    omega
  rw [U, key]
  by_cases h : d (P + 1) ≤ b (P + 1) + s
  · rw [if_pos h]
  · rw [if_neg h]
    simp only [U]
    rw [if_neg]
    have := hmono P
    omega
theorem U_across {bs p : List Int} (hb : Bnd bs) (hl : 0 < bs.length) (hp : p.length ≤ bs.length) : ∀ k, U (shp bs).need (fun P => below p ((P : Int) + 1)) (numB bs + k) (bs.length - p.length) = NU (shp bs) p
  | 0 => rfl
  | k + 1 => by
    obtain ⟨q, hq⟩ : ∃ q, numB bs + k = q + 1 := ⟨numB bs + k - 1, by have := (numB_top hb hl).1; omega⟩
    have hn : ∀ j : Nat, numB bs ≤ j + 1 → (shp bs).need j = bs.length := by
      intro j hj
      refine below_full fun x hx => ?_
      have := (numB_top hb hl).2 x hx
      omega
    have ih := U_across (p := p) hb hl hp k
    rw [show numB bs + (k + 1) = q + 1 + 1 by omega, U_past (n := bs.length) (m := p.length) rfl hp (fun i => below_le _ _) (fun i => ?_) (hn q (by omega)) (hn (q + 1) (by omega)), ← hq, ih]
    unfold below
    exact List.countP_mono_left fun x _ h => by simp at *; omega
/-! ### Streets as bounds -/
def idx (n : Nat) : List Int := (List.range n).map fun (i : Nat) => (i : Int)
theorem length_idx (n : Nat) : (idx n).length = n := by simp [idx]
theorem nth_idx {n i : Nat} (h : i < n) : nth (idx n) i = (i : Int) := by simp [nth, idx, h]
theorem idx_bnd (n : Nat) : Bnd (idx n) := by
  refine ⟨?_, fun b hb => ?_⟩
  · unfold idx
    rw [List.pairwise_map]
    exact List.Pairwise.imp (fun h => by omega) (List.pairwise_lt_range (n := n))
  · obtain ⟨i, _, rfl⟩ := List.mem_map.1 hb
    omega
theorem numB_idx (n : Nat) : numB (idx n) = n := by
  cases n with
  | zero => rfl
  | succ k =>
    have h1 := lt_numB (bs := idx (k + 1)) (b := (k : Int)) (List.mem_map.2 ⟨k, by simp, rfl⟩) (by omega)
    have h2 : numB (idx (k + 1)) ≤ k + 1 := by
      unfold numB
      rcases foldl_max_mem (idx (k + 1)) (-1) with h | h
      · omega
      · obtain ⟨i, hi, e⟩ := List.mem_map.1 h
        rw [List.mem_range] at hi
        omega
    omega
theorem below_idx {n j : Nat} (h : j < n) : below (idx n) ((j : Int) + 1) = j + 1 := by
  have h1 := below_cut (idx n) (j + 1) ((j : Int) + 1)
  have h2 : below ((idx n).take (j + 1)) ((j : Int) + 1) = ((idx n).take (j + 1)).length := by
    refine below_full fun x hx => ?_
    obtain ⟨i, hi, rfl⟩ := mem_nth hx
    rw [List.length_take] at hi
    rw [nth_take (by omega), nth_idx (by omega)]
    omega
  have h3 : below ((idx n).drop (j + 1)) ((j : Int) + 1) = 0 := by
    unfold below
    rw [List.countP_eq_zero]
    intro x hx
    obtain ⟨i, hi, rfl⟩ := mem_nth hx
    rw [List.length_drop, length_idx] at hi
    rw [nth_dropP, nth_idx (by omega)]
    simp
    omega
  rw [h1, h2, h3, List.length_take, length_idx]
  omega
theorem N_idx (n : Nat) (p : List Int) : NU (shp (idx n)) p = N p n := by
  unfold NU N
  rw [V_U]
  simp only [shp, numB_idx, length_idx]
  exact U_congr n (fun _ _ => rfl) (fun i hi => below_idx hi) _
theorem zf_idx (n : Nat) (p : List Int) : zf (shp (idx n)) p ↔ zpark p n := by
  unfold zf zpark
  simp only [shp, numB_idx, length_idx]
  constructor
  · intro h i hi
    have := h i hi
    rw [below_idx hi] at this
    omega
  · intro h i hi
    have := h i hi
    rw [below_idx hi]
    omega
theorem sml_idx {n : Nat} (h : n ≤ 8) : Sml (idx n) := by
  have : ∀ n, n < 9 → n ^ n ≤ 16777216 := by decide +kernel
  exact ⟨idx_bnd n, by rw [length_idx]; exact h, by rw [numB_idx]; omega, by rw [numB_idx, length_idx]; exact this n (by omega)⟩
theorem und_idx {xs : List Int} {n : Nat} (hl : xs.length = n) (h8 : n ≤ 8) : und (idx n) xs = isPark xs := by
  rw [Bool.eq_iff_iff, und_iff (idx_bnd n) (by rw [length_idx]; exact hl), zf_idx]
  subst hl
  constructor
  · rintro ⟨h0, hz⟩
    exact (isPark_zpark h8 h0).2 hz
  · intro h
    have h0 : ∀ x ∈ xs, 0 ≤ x := fun x hx => ((isPark_bounds h).2 x hx).1
    exact ⟨h0, (isPark_zpark h8 h0).1 h⟩
theorem rk_idx (n : Nat) : ∀ (r : List Nat) (p : List Int), rkU (shp (idx n)) p r = rk n p r
  | [], _ => rfl
  | x :: r, p => by
    simp only [rkU, rk]
    rw [rk_idx n r, sumTo_congr (f := fun y : Nat => NU (shp (idx n)) (p ++ [(y : Int)])) (g := fun y : Nat => N (p ++ [(y : Int)]) n) fun y _ => N_idx n _]
theorem nextU_idx {xs : List Int} {n : Nat} (hl : xs.length = n) (h8 : n ≤ 8) : ∀ c, c ≤ n → nextU (idx n) xs c = nextP xs c
  | 0, _ => rfl
  | c + 1, h => by
    simp only [nextU, nextP]
    rw [und_idx (by rw [length_cand (by omega)]; exact hl) h8, nextU_idx hl h8 c (by omega)]
theorem nextW_idx {xs : List Int} {n : Nat} : ∀ c, c ≤ n → nextW (idx n) xs c = nextS xs c
  | 0, _ => rfl
  | c + 1, h => by
    simp only [nextW, nextS]
    rw [nth_idx (by omega), nextW_idx c (by omega)]
theorem pick_congr {f g : Nat → Nat} (h : ∀ y, f y = g y) (k y r : Nat) : pick f k y r = pick g k y r := by rw [funext h]
theorem at_idx (n : Nat) : ∀ (k : Nat) (p : List Int) (R : Nat), atU (shp (idx n)) k p R = atL n k p R
  | 0, _, _ => rfl
  | k + 1, p, R => by
    simp only [atU, atL]
    have e : (fun y : Nat => NU (shp (idx n)) (p ++ [(y : Int)])) = fun y : Nat => N (p ++ [(y : Int)]) n := funext fun y => N_idx n _
    rw [e, show (shp (idx n)).A = n from numB_idx n, at_idx n k]
theorem list_idx (n : Nat) : ∀ (k : Nat) (p : List Int), liU (shp (idx n)) k p = listL n k p
  | 0, p => by
    simp only [liU, listL]
    by_cases h : zpark p n
    · rw [if_pos h, if_pos ((zf_idx n p).2 h)]
    · rw [if_neg h, if_neg fun hh => h ((zf_idx n p).1 hh)]
  | k + 1, p => by
    simp only [liU, listL]
    rw [show (shp (idx n)).A = n from numB_idx n]
    congr 1
    funext x
    exact list_idx n k _
theorem cnt_idx {n : Nat} (h : n ≤ 8) : cntB (idx n) = cnt n := by unfold cntB; rw [N_idx, N_nil h]
end Go.Proofs.YtakadjhbomggbaaGreat

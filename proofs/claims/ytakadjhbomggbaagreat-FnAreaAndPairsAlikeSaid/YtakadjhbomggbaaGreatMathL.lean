/- All lists between two others, in lexicographic order, and the step from one to the next. -/
import Derived.Test.YtakadjhbomggbaaGreatMathO
namespace Go.Proofs.YtakadjhbomggbaaGreat
open Go.RowKit

/-- The numbers l, l + 1, .., (k of them). -/
def upFrom (l : Int) : Nat → List Int
  | 0 => []
  | k + 1 => l :: upFrom (l + 1) k
/-- How many numbers from l to h. -/
def span (l h : Int) : Nat := (h - l + 1).toNat
/-- All lists between ls and hs. -/
def lex : List Int → List Int → List (List Int)
  | l :: ls, h :: hs => (upFrom l (span l h)).flatMap fun x => (lex ls hs).map (x :: ·)
  | _, _ => [[]]

/-- One step, from the end: the new list, and whether all numbers were the greatest. -/
def stepC : List Int → List Int → List Int → List Int × Bool
  | x :: xs, l :: ls, h :: hs =>
    let r := stepC xs ls hs
    if r.2 then (if x < h then ((x + 1) :: r.1, false) else (l :: r.1, true)) else (x :: r.1, false)
  | xs, _, _ => (xs, true)

/-- From s on, the step f goes through the list L, and then to t. -/
def SeqTo {α : Type} (f : α → α × Bool) : α → List α → α × Bool → Prop
  | _, [], _ => False
  | s, [u], t => s = u ∧ f u = t
  | s, u :: v :: L, t => s = u ∧ f u = (v, false) ∧ SeqTo f v (v :: L) t

theorem SeqTo.append {α : Type} {f : α → α × Bool} : ∀ {L1 : List α} {s m : α} {L2 : List α} {t : α × Bool}, SeqTo f s L1 (m, false) → SeqTo f m L2 t → SeqTo f s (L1 ++ L2) t
  | [], _, _, _, _, h, _ => h.elim
  | [u], s, m, L2, t, h, h2 => by
    obtain ⟨rfl, hu⟩ := h
    match L2, h2 with
    | [v], h2 => obtain ⟨rfl, hv⟩ := h2; exact ⟨rfl, hu, rfl, hv⟩
    | v :: v' :: L, h2 =>
      have hm : m = v := h2.1
      subst hm
      exact ⟨rfl, hu, h2⟩
  | u :: v :: L, s, m, L2, t, h, h2 => by
    obtain ⟨rfl, hu, h3⟩ := h
    exact ⟨rfl, hu, SeqTo.append (L1 := v :: L) h3 h2⟩

theorem SeqTo.cons {ls hs : List Int} {l h x : Int} : ∀ {L : List (List Int)} {s t : List Int}, SeqTo (fun xs => stepC xs ls hs) s L (t, true) →
    SeqTo (fun xs => stepC xs (l :: ls) (h :: hs)) (x :: s) (L.map (x :: ·)) (if x < h then ((x + 1) :: t, false) else (l :: t, true))
  | [], _, _, h => h.elim
  | [u], s, t, hh => by
    obtain ⟨rfl, hu⟩ := hh
    refine ⟨rfl, ?_⟩
    simp only [stepC, hu]
    rfl
  | u :: v :: L, s, t, hh => by
    obtain ⟨rfl, hu, h3⟩ := hh
    refine ⟨rfl, ?_, SeqTo.cons (L := v :: L) h3⟩
    simp only [stepC, hu]
    rfl

theorem lex_ne (ls hs : List Int) (hle : ∀ i, i < ls.length → nth ls i ≤ nth hs i) (hl : ls.length = hs.length) : SeqTo (fun xs => stepC xs ls hs) ls (lex ls hs) (ls, true) := by
  induction ls generalizing hs with
  | nil =>
    have : hs = [] := List.eq_nil_of_length_eq_zero (by simpa using hl.symm)
    subst this
    exact ⟨rfl, rfl⟩
  | cons l ls ih =>
    match hs, hl with
    | h :: hs, hl =>
      have ih' := ih hs (fun i hi => by have := hle (i + 1) (by simpa using hi); simpa [nth] using this) (by simpa using hl)
      have h0 : l ≤ h := by have := hle 0 (by simp); simpa [nth] using this
      have key : ∀ (k : Nat) (x : Int), x + k = h → SeqTo (fun xs => stepC xs (l :: ls) (h :: hs)) (x :: ls) ((upFrom x (k + 1)).flatMap fun x => (lex ls hs).map (x :: ·)) (l :: ls, true) := by
        intro k
        induction k with
        | zero =>
          intro x hx
          have hc := SeqTo.cons (l := l) (h := h) (x := x) ih'
          rw [if_neg (by omega)] at hc
          simpa [upFrom] using hc
        | succ k ihk =>
          intro x hx
          have hc := SeqTo.cons (l := l) (h := h) (x := x) ih'
          rw [if_pos (by omega)] at hc
          have := SeqTo.append hc (ihk (x + 1) (by omega))
          simpa [upFrom] using this
      have := key (h - l).toNat l (by omega)
      have e : span l h = (h - l).toNat + 1 := by unfold span; omega
      unfold lex
      rw [e]
      exact this

/-- What the step comes to, from each to the next. -/
theorem SeqTo.at {α : Type} {f : α → α × Bool} (d : α) : ∀ {L : List α} {s : α} {t : α × Bool}, SeqTo f s L t → L.getD 0 d = s ∧ ∀ k, k + 1 < L.length → (f (L.getD k d)).1 = L.getD (k + 1) d
  | [], _, _, h => h.elim
  | [u], s, t, h => ⟨h.1.symm, fun k hk => by simp at hk⟩
  | u :: v :: L, s, t, h => by
    obtain ⟨rfl, hu, h3⟩ := h
    obtain ⟨_, h5⟩ := SeqTo.at d (L := v :: L) h3
    refine ⟨rfl, fun k hk => ?_⟩
    match k with
    | 0 => simp [hu]
    | k + 1 => simpa using h5 k (by simpa using hk)

theorem length_upFrom : ∀ (k : Nat) (l : Int), (upFrom l k).length = k
  | 0, _ => rfl
  | k + 1, l => by simp [upFrom, length_upFrom k]
theorem upFrom_snoc : ∀ (k : Nat) (l : Int), upFrom l (k + 1) = upFrom l k ++ [l + k]
  | 0, l => by simp [upFrom]
  | k + 1, l => by
    rw [upFrom, upFrom_snoc k (l + 1), upFrom]
    simp
    omega
theorem length_lex_cons (l h : Int) (ls hs : List Int) : (lex (l :: ls) (h :: hs)).length = span l h * (lex ls hs).length := by
  have : ∀ (k : Nat) (x : Int), ((upFrom x k).flatMap fun x => (lex ls hs).map (x :: ·)).length = k * (lex ls hs).length := by
    intro k
    induction k with
    | zero => intro x; simp [upFrom]
    | succ k ih => intro x; simp [upFrom, ih, Nat.add_mul]; omega
  rw [show lex (l :: ls) (h :: hs) = (upFrom l (span l h)).flatMap fun x => (lex ls hs).map (x :: ·) from by rw [lex]]
  exact this _ _

theorem drop_nth {xs : List Int} {i : Nat} (h : i < xs.length) : xs.drop i = nth xs i :: xs.drop (i + 1) := by
  rw [List.drop_eq_getElem_cons h]; simp [nth, h]

/-- As many as the product tells. -/
theorem length_lex (xs : List Int) (ho : outB xs = true) : ∀ k, k ≤ xs.length → (prodTo xs (xs.length - k) * ((lex ((leasts xs).drop (xs.length - k)) (xs.drop (xs.length - k))).length : Int)) = prodTo xs xs.length
  | 0, _ => by simp [lex, leasts]
  | k + 1, hk => by
    have ih := length_lex xs ho k (by omega)
    have e : xs.length - k = xs.length - (k + 1) + 1 := by omega
    have hi : xs.length - (k + 1) < xs.length := by omega
    rw [e] at ih
    generalize xs.length - (k + 1) = i at *
    rw [drop_nth hi, drop_nth (by rw [length_leasts]; exact hi), nth_leasts hi, length_lex_cons]
    have hb := leastOf_bounds (out_nth ho hi).1
    have hs : (span (leastOf xs i) (nth xs i) : Int) = rowOf xs i := by unfold span rowOf; omega
    rw [Int.natCast_mul, hs, ← Int.mul_assoc]
    exact ih

theorem stepC_length : ∀ (ys ls hs : List Int), (stepC ys ls hs).1.length = ys.length
  | [], _, _ => by simp [stepC]
  | y :: ys, [], _ => by simp [stepC]
  | y :: ys, l :: ls, [] => by simp [stepC]
  | y :: ys, l :: ls, h :: hs => by
    have ih := stepC_length ys ls hs
    simp only [stepC]
    split <;> (try split) <;> simp [ih]
theorem stepC_at {ys ls hs : List Int} {j : Nat} (h1 : j < ys.length) (h2 : j < ls.length) (h3 : j < hs.length) :
    stepC (ys.drop j) (ls.drop j) (hs.drop j) = (let r := stepC (ys.drop (j + 1)) (ls.drop (j + 1)) (hs.drop (j + 1)); if r.2 then (if nth ys j < nth hs j then ((nth ys j + 1) :: r.1, false) else (nth ls j :: r.1, true)) else (nth ys j :: r.1, false)) := by
  rw [drop_nth h1, drop_nth h2, drop_nth h3, stepC]
/-- A number that was not the greatest ends the step. -/
theorem stepC_done {ys ls hs : List Int} : ∀ (j : Nat), j ≤ ys.length → ys.length = ls.length → ys.length = hs.length → (stepC (ys.drop j) (ls.drop j) (hs.drop j)).2 = false → (stepC ys ls hs).1 = ys.take j ++ (stepC (ys.drop j) (ls.drop j) (hs.drop j)).1
  | 0, _, _, _, _ => by simp
  | j + 1, hj, h1, h2, h => by
    have e := stepC_at (ys := ys) (ls := ls) (hs := hs) (j := j) (by omega) (by omega) (by omega)
    simp only [h] at e
    have ih := stepC_done j (by omega) h1 h2 (by rw [e]; rfl)
    rw [ih, e, take_succ_nth (by omega)]
    simp

def allOutcomes (xs : List Int) : List (List Int) × Bool := if outB xs && decide (prodTo xs xs.length ≤ 500) then (lex (leasts xs) xs, true) else ([], false)
end Go.Proofs.YtakadjhbomggbaaGreat

/- The point of a Region: the least numbers that keep all bounds, however the bounds are gone through. -/
import Derived.Test.YtnddplldkgphnabMathRi
namespace Go.Proofs.Ytnddplldkgphnab
open Go.RowKit

/-- A bound: the number of the first place is at least that of the second one and so much. -/
def rlx (y : List Int) (r : Nat × Nat × Int) : List Int := if nth y r.1 < nth y r.2.1 + r.2.2 then y.set r.1 (nth y r.2.1 + r.2.2) else y
def runR (L : List (Nat × Nat × Int)) (y : List Int) : List Int := L.foldl rlx y
theorem length_rlx (y : List Int) (r : Nat × Nat × Int) : (rlx y r).length = y.length := by unfold rlx; split <;> simp
theorem length_runR (L : List (Nat × Nat × Int)) (y : List Int) : (runR L y).length = y.length := by
  unfold runR
  induction L generalizing y with
  | nil => rfl
  | cons r L ih => rw [List.foldl_cons, ih, length_rlx]
theorem nth_rlx {y : List Int} {r : Nat × Nat × Int} (h : r.1 < y.length) (i : Nat) : nth (rlx y r) i = if i = r.1 then max (nth y r.1) (nth y r.2.1 + r.2.2) else nth y i := by
  unfold rlx
  by_cases e : i = r.1
  · subst e
    rw [if_pos rfl]
    split
    · rw [nth_set h, if_pos rfl]; omega
    · omega
  · rw [if_neg e]
    split
    · rw [nth_set h, if_neg (fun e2 => e e2.symm)]
    · rfl
def LeL (y z : List Int) : Prop := y.length = z.length ∧ ∀ i, nth y i ≤ nth z i
theorem LeL.refl (y : List Int) : LeL y y := ⟨rfl, fun _ => Int.le_refl _⟩
theorem LeL.trans {x y z : List Int} (h : LeL x y) (h' : LeL y z) : LeL x z := ⟨h.1.trans h'.1, fun i => Int.le_trans (h.2 i) (h'.2 i)⟩
theorem LeL.anti {x y : List Int} (h : LeL x y) (h' : LeL y x) : x = y := ext_nth h.1 (fun i _ => Int.le_antisymm (h.2 i) (h'.2 i))
theorem rlx_infl {y : List Int} {r : Nat × Nat × Int} (h : r.1 < y.length) : LeL y (rlx y r) := ⟨(length_rlx _ _).symm, fun i => by
  rw [nth_rlx h]
  split
  · rename_i e; subst e; omega
  · exact Int.le_refl _⟩
theorem rlx_mono {y z : List Int} {r : Nat × Nat × Int} (h : r.1 < y.length) (hl : LeL y z) : LeL (rlx y r) (rlx z r) := ⟨by rw [length_rlx, length_rlx, hl.1], fun i => by
  rw [nth_rlx h, nth_rlx (by rw [← hl.1]; exact h)]
  have h1 := hl.2 r.1
  have h2 := hl.2 r.2.1
  split
  · omega
  · exact hl.2 i⟩
theorem run_sub {n : Nat} {L L' : List (Nat × Nat × Int)} (hs : L'.Sublist L) : (∀ r ∈ L, r.1 < n) → ∀ {y z : List Int}, y.length = n → LeL y z → LeL (runR L' y) (runR L z) := by
  induction hs with
  | slnil => intro _ y z _ h; exact h
  | cons r _ ih =>
    intro hr y z hy h
    exact ih (fun q hq => hr q (List.mem_cons_of_mem _ hq)) hy (h.trans (rlx_infl (by rw [← h.1, hy]; exact hr _ List.mem_cons_self)))
  | cons_cons r _ ih =>
    intro hr y z hy h
    exact ih (fun q hq => hr q (List.mem_cons_of_mem _ hq)) (by rw [length_rlx, hy]) (rlx_mono (by rw [hy]; exact hr _ List.mem_cons_self) h)
theorem rlx_under {y s : List Int} {r : Nat × Nat × Int} (h : r.1 < y.length) (hs : nth s r.2.1 + r.2.2 ≤ nth s r.1) (hl : LeL y s) : LeL (rlx y r) s := ⟨by rw [length_rlx]; exact hl.1, fun i => by
  rw [nth_rlx h]
  have h1 := hl.2 r.1
  have h2 := hl.2 r.2.1
  split
  · rename_i e; subst e; omega
  · exact hl.2 i⟩
theorem run_under {n : Nat} {s : List Int} : ∀ {L : List (Nat × Nat × Int)}, (∀ r ∈ L, r.1 < n) → (∀ r ∈ L, nth s r.2.1 + r.2.2 ≤ nth s r.1) → ∀ {y : List Int}, y.length = n → LeL y s → LeL (runR L y) s
  | [], _, _, y, _, h => h
  | r :: L, hr, hs, y, hy, h => by
    unfold runR
    rw [List.foldl_cons]
    exact run_under (fun q hq => hr q (List.mem_cons_of_mem _ hq)) (fun q hq => hs q (List.mem_cons_of_mem _ hq)) (by rw [length_rlx, hy]) (rlx_under (by rw [hy]; exact hr _ List.mem_cons_self) (hs _ List.mem_cons_self) h)
/-- What the model asks of a place. -/
def modS (f p : Nat) : List (Nat × Nat × Int) := (if 0 < p then [(p, p - 1, 1)] else []) ++ (if 0 < f then [(p, f - 1, 101)] else []) ++ (if f < p then [(f, p, -99)] else [])
/-- What the program asks of a place and one before. -/
def prgS (f p b : Nat) : List (Nat × Nat × Int) := if b < f then [(p, b, 101)] else [(p, b, 1), (b, p, -99)]
def prgP (f p : Nat) : Nat → List (Nat × Nat × Int)
  | 0 => []
  | b + 1 => prgP f p b ++ prgS f p b
def farAt (fs : List Int) (p : Nat) : Nat := (nth fs p).toNat
def modR (fs : List Int) : Nat → List (Nat × Nat × Int)
  | 0 => []
  | p + 1 => modR fs p ++ modS (farAt fs p) p
def prgR (fs : List Int) : Nat → List (Nat × Nat × Int)
  | 0 => []
  | p + 1 => prgR fs p ++ prgP (farAt fs p) p p
/-- Some of what the program asks, in its order. -/
def midS (f p : Nat) : List (Nat × Nat × Int) := (if 0 < f then [(p, f - 1, 101)] else []) ++ (if f + 1 < p then [(f, p, -99), (p, p - 1, 1)] else if f < p then [(p, f, 1), (f, p, -99)] else [])
def midR (fs : List Int) : Nat → List (Nat × Nat × Int)
  | 0 => []
  | p + 1 => midR fs p ++ midS (farAt fs p) p
def times (L : List (Nat × Nat × Int)) : Nat → List (Nat × Nat × Int)
  | 0 => []
  | k + 1 => times L k ++ L
/-- The least numbers. -/
def solL (fs : List Int) : List Int := runR (times (midR fs fs.length) (min fs.length 5)) (List.replicate fs.length 0)
def holdsB (fs : List Int) : Bool := (modR fs fs.length).all fun r => decide (nth (solL fs) r.2.1 + r.2.2 ≤ nth (solL fs) r.1)
/-- All lists that Far may be. -/
def lastNat (l : List Int) : Nat := (nth l (l.length - 1)).toNat
def faF : Nat → List Int → List (List Int)
  | 0, l => [l]
  | k + 1, l => (List.range (l.length + 1 - lastNat l)).flatMap fun d => faF k (l ++ [((lastNat l + d : Nat) : Int)])
theorem faF_mem {os fs : List Int} (h : farTo os fs fs.length = true) : ∀ k m, m + k = fs.length → fs ∈ faF k (fs.take m)
  | 0, m, e => by
    simp only [faF, List.mem_singleton]
    rw [List.take_of_length_le (by omega)]
  | k + 1, m, e => by
    have hs := stepB_iff.1 (farTo_at h m (by omega))
    have hl : (lastNat (fs.take m) : Int) = lastF fs m := by
      unfold lastNat lastF
      rw [List.length_take, Nat.min_eq_left (by omega)]
      cases m with
      | zero => rfl
      | succ m =>
        rw [if_neg (by omega), nth_take (by omega)]
        have := stepB_iff.1 (farTo_at h m (by omega))
        have h0 : farTo os fs m = true := by
          have : ∀ a b, a + b = fs.length → farTo os fs a = true := by
            intro a b
            induction b generalizing a with
            | zero => intro e; rw [show a = fs.length by omega]; exact h
            | succ b ih => intro e; have := ih (a + 1) (by omega); rw [farTo, Bool.and_eq_true] at this; exact this.1
          exact this m (fs.length - m) (by omega)
        have := (lastF_bounds h0).1
        simp only [Nat.add_sub_cancel]
        omega
    simp only [faF, List.mem_flatMap, List.mem_range]
    have hlen : (fs.take m).length = m := by rw [List.length_take]; omega
    refine ⟨(nth fs m).toNat - lastNat (fs.take m), by rw [hlen]; omega, ?_⟩
    rw [show ((lastNat (fs.take m) + ((nth fs m).toNat - lastNat (fs.take m)) : Nat) : Int) = nth fs m by omega, ← take_succ_nth (by omega)]
    exact faF_mem h k (m + 1) (by omega)
set_option maxHeartbeats 8000000 in
theorem holds_lt7 : ∀ n, n < 7 → (faF n []).all holdsB = true := by decide +kernel
theorem faF_add (k : Nat) : ∀ (j : Nat) (l : List Int), faF (j + k) l = (faF j l).flatMap (faF k)
  | 0, l => by simp [faF]
  | j + 1, l => by
    rw [show j + 1 + k = (j + k) + 1 by omega]
    simp only [faF]
    rw [List.flatMap_assoc]
    congr 1
    funext d
    exact faF_add k j _
theorem faF_three : faF 3 [] = [[0, 0, 0], [0, 0, 1], [0, 0, 2], [0, 1, 1], [0, 1, 2]] := by decide +kernel
set_option maxHeartbeats 8000000 in
theorem holds_7_000 : (faF 4 [0,0,0]).all holdsB = true := by decide +kernel
set_option maxHeartbeats 8000000 in
theorem holds_7_001 : (faF 4 [0,0,1]).all holdsB = true := by decide +kernel
set_option maxHeartbeats 8000000 in
theorem holds_7_002 : (faF 4 [0,0,2]).all holdsB = true := by decide +kernel
set_option maxHeartbeats 8000000 in
theorem holds_7_011 : (faF 4 [0,1,1]).all holdsB = true := by decide +kernel
set_option maxHeartbeats 8000000 in
theorem holds_7_012 : (faF 4 [0,1,2]).all holdsB = true := by decide +kernel
set_option maxHeartbeats 8000000 in
theorem holds_8_000 : (faF 5 [0,0,0]).all holdsB = true := by decide +kernel
set_option maxHeartbeats 8000000 in
theorem holds_8_001 : (faF 5 [0,0,1]).all holdsB = true := by decide +kernel
set_option maxHeartbeats 8000000 in
theorem holds_8_002 : (faF 5 [0,0,2]).all holdsB = true := by decide +kernel
set_option maxHeartbeats 8000000 in
theorem holds_8_011 : (faF 5 [0,1,1]).all holdsB = true := by decide +kernel
set_option maxHeartbeats 8000000 in
theorem holds_8_012 : (faF 5 [0,1,2]).all holdsB = true := by decide +kernel
theorem holds_all : ∀ n, n < 9 → (faF n []).all holdsB = true := fun n hn => by
  by_cases h7 : n < 7
  · exact holds_lt7 n h7
  · rcases (show n = 7 ∨ n = 8 by omega) with rfl | rfl
    · rw [show (7 : Nat) = 3 + 4 from rfl, faF_add, faF_three]
      simp only [List.flatMap_cons, List.flatMap_nil, List.all_append, List.all_nil, holds_7_000, holds_7_001, holds_7_002, holds_7_011, holds_7_012, Bool.and_true]
    · rw [show (8 : Nat) = 3 + 5 from rfl, faF_add, faF_three]
      simp only [List.flatMap_cons, List.flatMap_nil, List.all_append, List.all_nil, holds_8_000, holds_8_001, holds_8_002, holds_8_011, holds_8_012, Bool.and_true]
theorem sol_holds {os fs : List Int} (h : regB os fs = true) (h8 : fs.length ≤ 8) : ∀ r ∈ modR fs fs.length, nth (solL fs) r.2.1 + r.2.2 ≤ nth (solL fs) r.1 := by
  have h1 := faF_mem (reg_iff.1 h).2.2 fs.length 0 (by omega)
  rw [List.take_zero] at h1
  have h2 := List.all_eq_true.1 (holds_all fs.length (by omega)) fs h1
  unfold holdsB at h2
  exact fun r hr => of_decide_eq_true (List.all_eq_true.1 h2 r hr)
end Go.Proofs.Ytnddplldkgphnab

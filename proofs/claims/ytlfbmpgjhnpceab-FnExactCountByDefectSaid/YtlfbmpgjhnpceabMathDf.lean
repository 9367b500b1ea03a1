/- Lists by their defects. -/
import Derived.Test.YtlfbmpgjhnpceabMathAt
namespace Go.Proofs.Ytlfbmpgjhnpceab
open Go.RowKit

/-- How often a number occurs. -/
def occ5 (s : List Int) (v : Int) : Int := (s.count v : Int)
theorem occ5_succ {s : List Int} {k : Nat} (h : k < s.length) (v : Int) : occ5 (s.take (k + 1)) v = occ5 (s.take k) v + if nth s k = v then 1 else 0 := by
  unfold occ5
  rw [take_succ_nth h, List.count_append, List.count_singleton]
  simp only [beq_iff_eq]
  split <;> omega
/-- The counts of the first k. -/
def Hist5 (ts : List Int) (m k : Nat) (zs : List Int) : Prop := ∀ d : Nat, d < m → nth zs d = occ5 (ts.take k) d
theorem hist5_first (ts : List Int) (m : Nat) : Hist5 ts m 0 (List.replicate m 0) := fun d hd => by
  rw [nth_rep hd]
  simp [occ5]
theorem hist5_step {ts zs : List Int} {m k d : Nat} (h : Hist5 ts m k zs) (hk : k < ts.length) (hd : nth ts k = (d : Int)) (hm : d < m) (hl : zs.length = m) : Hist5 ts m (k + 1) (zs.set d (nth zs d + 1)) := fun e he => by
  rw [nth_set (by omega), occ5_succ hk, hd]
  by_cases x : d = e
  · subst x
    rw [if_pos rfl, if_pos rfl, h d hm]
  · rw [if_neg x, if_neg (by omega), h e he, Int.add_zero]
theorem hist5_le {ts zs : List Int} {m k d : Nat} (h : Hist5 ts m k zs) (hd : d < m) (hk : k ≤ ts.length) : 0 ≤ nth zs d ∧ nth zs d ≤ ts.length := by
  rw [h d hd]
  unfold occ5
  have := List.count_le_length (a := (d : Int)) (l := ts.take k)
  simp at this
  omega

/-- The defects of all lists. -/
def defTs (n : Nat) : List Int := (allTried n).map fun l => (fails (drive n l) : Int)
def byDefect (n : Nat) : List Int := (List.range n).map fun (d : Nat) => occ5 (defTs n) d
def byDefectOf (n : Int) : List Int × Bool := if inB n 1 5 then (byDefect n.toNat, true) else ([], false)
theorem length_defTs {n : Nat} (hn : 1 ≤ n) : (defTs n).length = n ^ n := by simp [defTs, length_allTried hn]
theorem nth_defTs {n k : Nat} (hn : 1 ≤ n) (hk : k < n ^ n) : nth (defTs n) k = (fails (drive n ((allTried n).getD k [])) : Int) := by
  have hk' : k < (allTried n).length := by rw [length_allTried hn]; exact hk
  simp [nth, defTs, hk']
/-- At least the first car parks. -/
theorem fails_lt {n : Nat} {l : List Int} (hn : 1 ≤ n) (hl : l.length = n) (hb : ∀ x ∈ l, 0 ≤ x ∧ x ≤ (n : Int) - 1) : fails (drive n l) < n := by
  have hd := length_drive (n : Int) l
  have h0 := drive_get (p := (n : Int)) (xs := l) (k := 0) (by omega)
  obtain ⟨x0, x1⟩ := hb _ (nth_mem (xs := l) (i := 0) (by omega))
  have hp := place_new (p := (n : Int)) (out := drive n (l.take 0)) (x := nth l 0) (by omega)
  rw [← h0] at hp
  have hpos : 0 ≤ nth (drive n l) 0 := by
    rcases hp with hp | hp
    · have h9 := place_of (p := (n : Int)) (out := drive n (l.take 0)) (Runs.refl _ _ (nth l 0)) (by simp [drive]) (by omega)
      rw [if_neg (by omega), ← h0] at h9
      omega
    · omega
  generalize drive n l = ys at *
  cases ys with
  | nil => simp at hd; omega
  | cons y ys =>
    rw [nth_cons_zero] at hpos
    have := fails_le ys
    have e : fails (y :: ys) = fails ys := by unfold fails; rw [List.countP_cons]; simp; omega
    rw [e]
    simp at hd
    omega
end Go.Proofs.Ytlfbmpgjhnpceab

/- The tables by which lists under bounds are counted, number by number. -/
import Derived.Test.YtkkhlkaieohklabGreatMathSm
import Derived.Test.YtkkhlkaieohklabGreatMathW
namespace Go.Proofs.YtkkhlkaieohklabGreat
open Go.RowKit

def cutU (d b : Nat → Nat) (L P : Nat) : Nat → Nat := fun s => if s ≤ L then U d b P s else 0
theorem tab_cut {d b : Nat → Nat} {L P : Nat} {ys : List Int} (h : Tab (U d b P) L ys) : Tab (cutU d b L P) L ys := fun s hs => by rw [h s hs, cutU, if_pos hs]
theorem cut_small {bs : List Int} (h : Sml bs) (b : Nat → Nat) {P L : Nat} (hP : P ≤ numB bs) (hL : L ≤ bs.length) : ∀ s, s ≤ 8 → cutU (shp bs).need b L P s ≤ 16777216 := fun s _ => by
  unfold cutU
  split
  · exact U_small h b hP hL s (by assumption)
  · omega
theorem cut_sum (d b : Nat → Nat) {L P s : Nat} (hs : s ≤ L) : sumTo (fun j => chs s j * cutU d b L P j) (s + 1) = sumTo (fun j => chs s j * U d b P j) (s + 1) :=
  sumTo_congr fun j hj => by rw [cutU, if_pos (by omega)]
theorem tabU_first (d b : Nat → Nat) (L : Nat) : Tab (U d b 0) L ((List.replicate (L + 1) 0).set 0 1) := fun s hs => by
  rw [tab_first b L s hs]
  rfl
theorem tabU_step {d b : Nat → Nat} {P L : Nat} {zs : List Int} (h : Next (fun s => decide (d P ≤ b P + s)) (cutU d b L P) L (L + 1) 0 zs) : Tab (U d b (P + 1)) L zs := fun s hs => by
  rw [next_final h s hs]
  simp only [U, decide_eq_true_eq, cut_sum d b (P := P) hs]
/-- Of the first k entries those are zero for which too few are chosen. -/
def ZeroD (d u L k : Nat) (zs zs' : List Int) : Prop := ∀ s, s ≤ L → nth zs' s = if s < k ∧ u + s < d then 0 else nth zs s
theorem zeroD_first (d u L : Nat) (zs : List Int) : ZeroD d u L 0 zs zs := fun s _ => by rw [if_neg (by omega)]
theorem zeroD_skip {d u L k : Nat} {zs zs' : List Int} (h : ZeroD d u L k zs zs') (hk : d ≤ u + k) : ZeroD d u L (k + 1) zs zs' := fun s hs => by
  rw [h s hs]
  have : (s < k ∧ u + s < d) = (s < k + 1 ∧ u + s < d) := by apply propext; omega
  simp only [this]
theorem zeroD_set {d u L k : Nat} {zs zs' : List Int} (h : ZeroD d u L k zs zs') (hl : k < zs'.length) (hk : u + k < d) : ZeroD d u L (k + 1) zs (zs'.set k 0) := fun s hs => by
  rw [nth_set hl]
  by_cases e : k = s
  · subst e; rw [if_pos rfl, if_pos ⟨by omega, hk⟩]
  · rw [if_neg e, h s hs]
    have : (s < k ∧ u + s < d) = (s < k + 1 ∧ u + s < d) := by apply propext; omega
    simp only [this]
theorem zeroD_tab {d b : Nat → Nat} {P L : Nat} {zs zs' : List Int} (h : ZeroD (d P) (b P) L (L + 1) zs zs') (hn : Next (fun _ => true) (cutU d b L P) L (L + 1) 0 zs) : Tab (U d b (P + 1)) L zs' := fun s hs => by
  rw [h s hs, next_final hn s hs]
  simp only [U]
  by_cases e : d P ≤ b P + s
  · rw [if_neg (by omega), if_pos e, if_pos trivial, cut_sum d b hs]
  · rw [if_pos ⟨by omega, by omega⟩, if_neg e, Nat.mul_zero]
    rfl
/-- How many lists go on p with each of the first k numbers. -/
def nextsU (bs p : List Int) (k : Nat) : List Int := (List.range k).map fun (x : Nat) => (NU (shp bs) (p ++ [(x : Int)]) : Int)
theorem nth_nextsU {bs p : List Int} {k i : Nat} (h : i < k) : nth (nextsU bs p k) i = (NU (shp bs) (p ++ [(i : Int)]) : Int) := by simp [nth, nextsU, h]
theorem length_nextsU (bs p : List Int) (k : Nat) : (nextsU bs p k).length = k := by simp [nextsU]
/-- What the first j choices behind p are. -/
def rkP (bs p : List Int) (j : Nat) : Nat := sumTo (fun y => NU (shp bs) (p ++ [(y : Int)])) j
theorem rkP_succ (bs p : List Int) (j : Nat) : rkP bs p (j + 1) = rkP bs p j + NU (shp bs) (p ++ [(j : Int)]) := rfl
theorem rkP_le {bs p : List Int} (h : Sml bs) : ∀ j, j ≤ 13 → rkP bs p j ≤ j * 16777216
  | 0, _ => by simp [rkP, sumTo]
  | j + 1, hj => by
    have := rkP_le (p := p) h j (by omega)
    have := NU_le (p := p ++ [(j : Int)]) h
    rw [rkP_succ]
    omega
/-- The rank of the first k numbers. -/
def rkTU (bs xs : List Int) (k : Nat) : Nat := rkU (shp bs) [] (toN (xs.take k))
theorem rkTU_succ {bs xs : List Int} {k x : Nat} (h0 : ∀ y ∈ xs, 0 ≤ y) (hk : k < xs.length) (hx : nth xs k = (x : Int)) : rkTU bs xs (k + 1) = rkTU bs xs k + rkP bs (xs.take k) x := by
  unfold rkTU rkP
  rw [take_succ_nth hk, hx]
  have e : toN (xs.take k ++ [(x : Int)]) = toN (xs.take k) ++ [x] := by simp [toN]
  rw [e, u_rk_append, toI_toN fun y hy => h0 y (List.mem_of_mem_take hy)]
  simp [rkU]
theorem rkTU_le {bs xs : List Int} (h : Sml bs) (h0 : ∀ y ∈ xs, 0 ≤ y ∧ y ≤ 13) : ∀ k, k ≤ xs.length → rkTU bs xs k ≤ k * 218103808
  | 0, _ => by simp [rkTU, toN, rkU]
  | k + 1, hk => by
    have ih := rkTU_le h h0 k (by omega)
    have hx := h0 _ (nth_mem (xs := xs) (i := k) (by omega))
    rw [rkTU_succ (x := (nth xs k).toNat) (fun y hy => (h0 y hy).1) (by omega) (by omega)]
    have := rkP_le (p := xs.take k) h (nth xs k).toNat (by omega)
    omega
theorem rkTU_all {bs xs : List Int} : rkTU bs xs xs.length = rkB bs xs := by simp [rkTU, rkB]
/-- What is left to choose behind p, at r. -/
def LeftU (bs : List Int) (R : Nat) (p : List Int) (k r : Nat) : Prop := r < NU (shp bs) p ∧ atB bs R = p ++ toI (atU (shp bs) (bs.length - k) p r)
theorem leftU_first {bs : List Int} {R : Nat} (hR : R < cntB bs) : LeftU bs R [] 0 R := ⟨hR, by simp [atB]⟩
theorem leftU_step {bs : List Int} {R k r x ρ : Nat} {p : List Int} (h : LeftU bs R p k r) (hk : k < bs.length) (hp : p.length = k) (h1 : r = rkP bs p x + ρ) (h2 : ρ < NU (shp bs) (p ++ [(x : Int)])) : LeftU bs R (p ++ [(x : Int)]) (k + 1) ρ := by
  refine ⟨h2, ?_⟩
  rw [h.2, show bs.length - k = (bs.length - (k + 1)) + 1 by omega, u_at_step ⟨h1, h2⟩ (by simp only [shp]; omega) h.1, snoc_toI]
theorem leftU_room {bs : List Int} {R k r y ρ : Nat} {p : List Int} (h : LeftU bs R p k r) (hk : k < bs.length) (hp : p.length = k) (h1 : r = rkP bs p y + ρ) : y < numB bs := by
  have h2 := h.1
  rw [u_N_split (by simp only [shp]; omega)] at h2
  apply Classical.byContradiction
  intro hn
  have := sumTo_mono (fun y => NU (shp bs) (p ++ [(y : Int)])) (show numB bs ≤ y by omega)
  unfold rkP at h1
  simp only [shp] at *
  omega
end Go.Proofs.YtkkhlkaieohklabGreat

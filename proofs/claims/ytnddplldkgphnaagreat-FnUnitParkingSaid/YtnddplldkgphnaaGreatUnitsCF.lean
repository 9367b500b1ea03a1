/- The law of unit parking functions, walked. -/
import Derived.Test.YtnddplldkgphnaaGreatCur
import Derived.Test.YtnddplldkgphnaaGreatMathVv
import Derived.Test.YtnddplldkgphnaaGreatMathQ
import Derived.Test.YtnddplldkgphnaaGreatMathT
import Derived.Test.YtnddplldkgphnaaGreatMathP
import Derived.Test.YtnddplldkgphnaaGreatDrawUnG
import Derived.Test.YtnddplldkgphnaaGreatMathX
import Derived.Test.YtnddplldkgphnaaGreatSpecD
import Derived.StillTailTactics
import Derived.Test.YtnddplldkgphnaaGreatShelf
import Derived.Test.YtnddplldkgphnaaGreatSpecS
import Derived.Test.YtnddplldkgphnaaGreatLawKit
import Derived.Sort.OwnSortedInts
import Derived.Test.YtnddplldkgphnaaGreatMathSm
import Derived.Test.YtnddplldkgphnaaGreatBase
import Derived.Laws.CopyOwn
import Derived.BigQuiet
import Derived.Test.YtnddplldkgphnaaGreatMathG
import Derived.IntWalk
import Derived.Test.YtnddplldkgphnaaGreatRows3
import Derived.Test.YtnddplldkgphnaaGreatPro
import Derived.Test.YtnddplldkgphnaaGreatRowA
import Derived.Test.YtnddplldkgphnaaGreatShelfG
import Derived.Lib.AppendZeros
import Derived.Laws.AppendOwn
import Derived.Test.YtnddplldkgphnaaGreatImplA
import Derived.Test.YtnddplldkgphnaaGreatSpecO
import Derived.Test.YtnddplldkgphnaaGreatHelp2
namespace Go.Proofs.YtnddplldkgphnaaGreat
open Go.RowKit

theorem HasB.below {w w' : World} {a : Option Addr} {n K : Nat} (h : HasB w a n K) (hb : Below K w w') : HasB w' a n K := by
  refine ⟨h.1, fun hx => ?_⟩
  obtain ⟨b, off, ha, hbk, hc⟩ := h.2 hx
  refine ⟨b, off, ha, hbk, fun i hi => ?_⟩
  obtain ⟨u, u0, u1, hu⟩ := hc i hi
  exact ⟨u, u0, u1, by rw [hb.cell (p := ⟨b, off + i, none⟩) hbk]; exact hu⟩

/-- An argument's slice of bytes. -/
theorem hasB_of_row {w : World} {a : Option Addr} {len cap : Nat} {zs : List Int}
    (h : (a = none ∧ len = 0 ∧ cap = 0 ∧ zs = []) ∨ ∃ x, a = some x ∧ len ≤ cap ∧ cap ≤ maxLen ∧ zs.length = cap ∧ (∀ i, i < zs.length → w.cell? (x.add i) = some (.int .u8 (zs.getD i 0))) ∧ ∀ n ∈ zs, (Lit.int .u8 n).wf = true) :
    len ≤ maxLen ∧ (len ≤ 1048576 → HasB w a len w.heap.size) := by
  rcases h with ⟨rfl, rfl, rfl, rfl⟩ | ⟨x, rfl, h1, h2, h3, h4, h5⟩
  · exact ⟨by unfold maxLen; omega, fun _ => ⟨by omega, by omega⟩⟩
  · refine ⟨by omega, fun hl => ⟨by omega, fun hx => ?_⟩⟩
    obtain ⟨b, off, spot⟩ := x
    have hc := h4 0 (by omega)
    have hspot : spot = none := by simpa [Addr.add] using World.cell?_spot hc
    subst hspot
    refine ⟨b, off, rfl, by have := World.block_lt_of_cell? w _ hc; simpa [Addr.add] using this, fun i hi => ?_⟩
    have := h4 i (by omega)
    have e : (⟨b, off, none⟩ : Addr).add i = ⟨b, off + i, none⟩ := by unfold Addr.add; split <;> simp_all
    rw [e] at this
    have hm : zs.getD i 0 ∈ zs := by simp [show i < zs.length by omega]
    have hw := h5 _ hm
    generalize zs.getD i 0 = u at *
    have hw' : (0 : Int) ≤ u ∧ u ≤ 255 := by simpa [Lit.wf, IntKind.min, IntKind.max, IntKind.signed, IntKind.bits] using hw
    exact ⟨u, hw'.1, hw'.2, this⟩

/-- The law's answer. -/
def Holds (w : World) (e : Ending) (w' : World) : Prop := e = .returned (.bool true) ∧ Below w.heap.size w w'
end Go.Proofs.YtnddplldkgphnaaGreat

namespace Go.Proofs.YtnddplldkgphnaaGreat
open Go.RowKit

def ordersL (n : Nat) : Nat → List Int → List (List Int)
  | 0, p => [p]
  | k + 1, p => (List.range n).flatMap fun (i : Nat) => if (i : Int) ∈ p then [] else ordersL n k (p ++ [(i : Int)])
def ordersTo (n k : Nat) (p : List Int) (c : Nat) : List (List Int) := (List.range c).flatMap fun (i : Nat) => if (i : Int) ∈ p then [] else ordersL n k (p ++ [(i : Int)])
theorem ordersTo_yes {n k c : Nat} {p : List Int} (h : ¬ (c : Int) ∈ p) : ordersTo n k p (c + 1) = ordersTo n k p c ++ ordersL n k (p ++ [(c : Int)]) := by simp [ordersTo, List.range_succ, h]
theorem ordersTo_no {n k c : Nat} {p : List Int} (h : (c : Int) ∈ p) : ordersTo n k p (c + 1) = ordersTo n k p c := by simp [ordersTo, List.range_succ, h]
theorem length_orders : ∀ (n k : Nat) (p : List Int), (ordersL n k p).length ≤ n ^ k
  | n, 0, p => by simp [ordersL]
  | n, k + 1, p => by
    have key : ∀ c, (ordersTo n k p c).length ≤ c * n ^ k := by
      intro c
      induction c with
      | zero => simp [ordersTo]
      | succ c ih =>
        have h1 := length_orders n k (p ++ [(c : Int)])
        by_cases e : (c : Int) ∈ p
        · rw [ordersTo_no e, Nat.succ_mul]; omega
        · rw [ordersTo_yes e, List.length_append, Nat.succ_mul]; omega
    have := key n
    rw [Nat.pow_succ, Nat.mul_comm]
    exact this
theorem length_ordersTo (n k : Nat) (p : List Int) : ∀ c, (ordersTo n k p c).length ≤ c * n ^ k := by
  intro c
  induction c with
  | zero => simp [ordersTo]
  | succ c ih =>
    have h1 := length_orders n k (p ++ [(c : Int)])
    by_cases e : (c : Int) ∈ p
    · rw [ordersTo_no e, Nat.succ_mul]; omega
    · rw [ordersTo_yes e, List.length_append, Nat.succ_mul]; omega
theorem pow6 : ∀ n, n < 7 → ∀ k, k < 7 → n ^ k ≤ 46656 := by decide +kernel
/-- All cars but one, and this one behind them. -/
def lastO (n c : Nat) : List Int := (upto n).eraseIdx c ++ [(c : Int)]
theorem orders_perm : ∀ n, n < 7 → (ordersL n n []).all (fun os => os.isPerm (upto n)) = true := by decide +kernel
theorem orders_last : ∀ n, n < 7 → ∀ c, c < n → (ordersL n n []).contains (lastO n c) = true := by decide +kernel
theorem length_lastO {n c : Nat} (h : c < n) : (lastO n c).length = n := by
  unfold lastO
  rw [List.length_append, List.length_eraseIdx, length_upto, if_pos h, List.length_singleton]
  omega
theorem upto_split {n c : Nat} (h : c < n) : (upto n).Perm ((c : Int) :: (upto n).eraseIdx c) := by
  have e : upto n = (upto n).take c ++ (c : Int) :: (upto n).drop (c + 1) := by
    conv => lhs; rw [← List.take_append_drop c (upto n)]
    rw [List.drop_eq_getElem_cons (by rw [length_upto]; exact h)]
    simp [upto]
  rw [List.eraseIdx_eq_take_drop_succ]
  conv => lhs; rw [e]
  exact List.perm_middle
theorem lastO_perm {n c : Nat} (h : c < n) : (lastO n c).Perm (upto n) := by
  unfold lastO
  exact (List.perm_append_comm.trans (upto_split h).symm)
theorem place_mono {p : Int} {out out' : List Int} {x : Int} (hx : x ≤ p) (h : ∀ z ∈ out, z ∈ out') (h' : place p out' x ≠ -1) : place p out x ≤ place p out' x := by
  rcases place_spec (p := p) (out := out') _ x hx rfl with ⟨e, _⟩ | ⟨a1, a2, a3, a4⟩
  · exact absurd e h'
  · rcases place_spec (p := p) (out := out) _ x hx rfl with ⟨e, b1⟩ | ⟨b1, b2, b3, b4⟩
    · exact absurd (h _ (b1 _ a1 a2)) a3
    · refine Classical.byContradiction fun hlt => ?_
      exact a3 (h _ (b4 _ a1 (by omega)))
/-- How far a car drives that comes last. -/
def lastD (xs : List Int) (p : Int) (n c : Nat) : Int := nth (dists p (reordL xs (lastO n c))) (n - 1)
theorem reord_append (xs A B : List Int) : reordL xs (A ++ B) = reordL xs A ++ reordL xs B := by simp [reordL]
theorem dist_le_last {xs os : List Int} {p : Int} {n k : Nat} (hl : xs.length = n) (h : (good xs p && allPark p xs) = true) (ho : os.Perm (upto n)) (hk : k < n) : ∃ c, c < n ∧ nth (dists p (reordL xs os)) k ≤ lastD xs p n c := by
  have hol : os.length = n := by rw [ho.length_eq, length_upto]
  obtain ⟨c, hc, hcv⟩ := mem_upto.1 (ho.subset (nth_mem (xs := os) (i := k) (by omega)))
  refine ⟨c, hc, ?_⟩
  have h1 := reord_park (os := os) h (by rw [hl]; exact ho)
  have h2 := reord_park (os := lastO n c) h (by rw [hl]; exact lastO_perm hc)
  obtain ⟨q1, q2⟩ := Bool.and_eq_true_iff.1 h2
  have hb1 := good_le (Bool.and_eq_true_iff.1 h1).1
  have hb2 := good_le q1
  have hlr : (reordL xs os).length = n := by rw [length_reord, hol]
  have hll : (reordL xs (lastO n c)).length = n := by rw [length_reord, length_lastO hc]
  unfold lastD
  rw [nth_dists (by omega), nth_dists (by omega), drive_get (by omega), drive_get (by omega)]
  have hx1 : nth (reordL xs os) k = nth xs c := by rw [nth_reord (by omega), hcv, Int.toNat_natCast]
  have hx2 : nth (reordL xs (lastO n c)) (n - 1) = nth xs c := by
    rw [nth_reord (by rw [length_lastO hc]; omega)]
    have : nth (lastO n c) (n - 1) = (c : Int) := by
      have hle : ((upto n).eraseIdx c).length = n - 1 := by rw [List.length_eraseIdx, length_upto, if_pos hc]
      unfold lastO
      rw [← hle]
      exact nth_append_at
    rw [this, Int.toNat_natCast]
  have htk : (reordL xs (lastO n c)).take (n - 1) = reordL xs ((upto n).eraseIdx c) := by
    unfold lastO
    rw [reord_append, List.take_append_of_le_length (by rw [length_reord, List.length_eraseIdx, length_upto, if_pos hc]; exact Nat.le_refl _), List.take_of_length_le (by rw [length_reord, List.length_eraseIdx, length_upto, if_pos hc]; exact Nat.le_refl _)]
  have htk1 : (reordL xs os).take k = reordL xs (os.take k) := by simp [reordL, List.map_take]
  have hsp : os = os.take k ++ (c : Int) :: os.drop (k + 1) := by
    conv => lhs; rw [← List.take_append_drop k os]
    rw [List.drop_eq_getElem_cons (by omega)]
    have : os[k] = (c : Int) := by rw [← hcv]; simp [nth, show k < os.length by omega]
    rw [this]
  have hperm : (os.take k ++ os.drop (k + 1)).Perm ((upto n).eraseIdx c) := by
    have : ((c : Int) :: (os.take k ++ os.drop (k + 1))).Perm ((c : Int) :: (upto n).eraseIdx c) := by
      refine List.perm_middle.symm.trans ?_
      rw [← hsp]
      exact ho.trans (upto_split hc)
    exact this.cons_inv
  have hsub : ∀ z ∈ drive p (reordL xs (os.take k)), z ∈ drive p (reordL xs ((upto n).eraseIdx c)) := fun z hz => by
    have hrp : (reordL xs (os.take k ++ os.drop (k + 1))).Perm (reordL xs ((upto n).eraseIdx c)) := hperm.map _
    refine (drive_order hrp fun x hx => ?_).subset ?_
    · refine hb2 x ?_
      unfold lastO
      rw [reord_append]
      exact List.mem_append_left _ (hrp.subset hx)
    · rw [reord_append]
      have : drive p (reordL xs (os.take k) ++ reordL xs (os.drop (k + 1))) = (reordL xs (os.drop (k + 1))).foldl (fun out x => out ++ [place p out x]) (drive p (reordL xs (os.take k))) := by simp [drive, List.foldl_append]
      rw [this]
      exact drive_append_mem _ _ _ hz
  rw [hx1, hx2, htk, htk1]
  have hne : place p (drive p (reordL xs ((upto n).eraseIdx c))) (nth xs c) ≠ -1 := by
    intro e
    refine allPark_iff.1 q2 ?_
    have hg := drive_get (p := p) (xs := reordL xs (lastO n c)) (k := n - 1) (by omega)
    rw [hx2, htk, e] at hg
    rw [← hg]
    exact nth_mem (by rw [length_drive]; omega)
  have hxp : nth xs c ≤ p := by rw [← hx1]; exact (hb1 _ (nth_mem (by omega))).2
  have := place_mono hxp hsub hne
  omega
def greatAll (xs : List Int) (p : Int) (n : Nat) : Int := greatL ((ordersL n n []).map fun os => greatL (dists p (reordL xs os)))
def greatLast (xs : List Int) (p : Int) (n : Nat) : Int := greatL ((List.range n).map fun c => lastD xs p n c)
theorem great_iff {ys : List Int} {m : Int} (hm : 0 ≤ m) : greatL ys ≤ m ↔ ∀ y ∈ ys, y ≤ m := by
  constructor
  · intro h y hy
    exact Int.le_trans ((fmax_ge ys 0).2 y hy) h
  · intro h
    rcases fmax_mem ys 0 with e | e
    · unfold greatL; omega
    · exact h _ e
theorem great_nonneg (ys : List Int) : 0 ≤ greatL ys := (fmax_ge ys 0).1
theorem great_same {xs : List Int} {p : Int} {n : Nat} (hl : xs.length = n) (h6 : n ≤ 6) (h : (good xs p && allPark p xs) = true) : greatLast xs p n = greatAll xs p n := by
  have hall : ∀ os ∈ ordersL n n [], os.Perm (upto n) := fun os ho => List.isPerm_iff.1 (List.all_eq_true.1 (orders_perm n (by omega)) os ho)
  refine Int.le_antisymm ?_ ?_
  · refine (great_iff (m := greatAll xs p n) (great_nonneg _)).2 ?_
    intro y hy
    obtain ⟨c, hc, rfl⟩ := List.mem_map.1 hy
    have hc := List.mem_range.1 hc
    have hm : lastO n c ∈ ordersL n n [] := List.contains_iff_mem.1 (orders_last n (by omega) c hc)
    have h1 := (fmax_ge ((ordersL n n []).map fun os => greatL (dists p (reordL xs os))) 0).2 _ (List.mem_map_of_mem hm)
    refine Int.le_trans ?_ h1
    exact (fmax_ge (dists p (reordL xs (lastO n c))) 0).2 _ (nth_mem (by rw [length_dists, length_reord, length_lastO hc]; omega))
  · refine (great_iff (m := greatLast xs p n) (great_nonneg _)).2 ?_
    intro y hy
    obtain ⟨os, ho, rfl⟩ := List.mem_map.1 hy
    refine (great_iff (m := greatLast xs p n) (great_nonneg _)).2 ?_
    intro z hz
    obtain ⟨k, hk, rfl⟩ := mem_nth hz
    have hp := hall os ho
    rw [length_dists, length_reord, hp.length_eq, length_upto] at hk
    obtain ⟨c, hc, hle⟩ := dist_le_last hl h hp hk
    exact Int.le_trans hle ((fmax_ge ((List.range n).map fun c => lastD xs p n c) 0).2 _ (List.mem_map_of_mem (List.mem_range.2 hc)))
def mostGr (xs : List Int) (p : Int) : Int × Bool := if good xs p && allPark p xs && decide (xs.length ≤ 6) then (greatAll xs p xs.length, true) else (0, false)
end Go.Proofs.YtnddplldkgphnaaGreat

namespace Go.Proofs.YtnddplldkgphnaaGreat
open Go.RowKit

theorem drive_take {p : Int} {xs : List Int} : ∀ k, k ≤ xs.length → drive p (xs.take k) = (drive p xs).take k
  | 0, _ => by simp [drive]
  | k + 1, h => by
    rw [drive_succ (by omega), drive_take k (by omega), take_succ_nth (by rw [length_drive]; omega), drive_get (by omega), drive_take k (by omega)]
/-- In increasing order of favourites places increase. -/
theorem drive_step {p : Int} {ys : List Int} (hb : ∀ x ∈ ys, 0 ≤ x ∧ x ≤ p - 1) (ha : allPark p ys = true) {k : Nat} (hk : k + 1 < ys.length) (hs : nth ys k ≤ nth ys (k + 1)) : nth (drive p ys) k < nth (drive p ys) (k + 1) := by
  have b1 := hb _ (nth_mem (xs := ys) (i := k) (by omega))
  have b2 := hb _ (nth_mem (xs := ys) (i := k + 1) hk)
  have n1 : nth (drive p ys) k ≠ -1 := fun e => allPark_iff.1 ha (by rw [← e]; exact nth_mem (by rw [length_drive]; omega))
  have n2 : nth (drive p ys) (k + 1) ≠ -1 := fun e => allPark_iff.1 ha (by rw [← e]; exact nth_mem (by rw [length_drive]; omega))
  rw [drive_get (by omega)] at n1
  have e2 := drive_get (p := p) hk
  rw [e2] at n2
  rw [e2, drive_get (by omega)]
  rw [drive_succ (by omega)] at n2 ⊢
  rcases place_spec (p := p) (out := drive p (ys.take k)) _ (nth ys k) (by omega) rfl with ⟨e, _⟩ | ⟨c1, c2, c3, c4⟩
  · exact absurd e n1
  · rcases place_spec (p := p) (out := drive p (ys.take k) ++ [place p (drive p (ys.take k)) (nth ys k)]) _ (nth ys (k + 1)) (by omega) rfl with ⟨e, _⟩ | ⟨d1, d2, d3, d4⟩
    · exact absurd e n2
    · rw [List.mem_append, List.mem_singleton, not_or] at d3
      obtain ⟨d5, d6⟩ := d3
      rcases Int.lt_trichotomy (place p (drive p (ys.take k)) (nth ys k)) (place p (drive p (ys.take k) ++ [place p (drive p (ys.take k)) (nth ys k)]) (nth ys (k + 1))) with h | h | h
      · exact h
      · exact absurd h.symm d6
      · exact absurd (c4 _ (by omega) h) d5
theorem incr_of {l : List Int} {n : Nat} (h : ∀ k, k + 1 < n → nth l k < nth l (k + 1)) : ∀ i j, i < j → j < n → nth l i < nth l j
  | _, 0, h1, _ => by omega
  | i, j + 1, h1, h2 => by
    have h3 := h j h2
    by_cases e : i = j
    · rw [e]; exact h3
    · have := incr_of h i j (by omega) (by omega)
      omega
/-- How many at most v. -/
def upTo (l : List Int) (v : Int) : Nat := l.countP fun x => decide (x ≤ v)
theorem upTo_take {l : List Int} {v : Int} {k : Nat} (h : k < l.length) : upTo (l.take (k + 1)) v = upTo (l.take k) v + if nth l k ≤ v then 1 else 0 := by
  unfold upTo
  rw [take_succ_nth h, List.countP_append]
  by_cases e : nth l k ≤ v <;> simp [e]
theorem upTo_le {a b : List Int} {v u : Int} : ∀ k, k ≤ a.length → k ≤ b.length → (∀ i, i < k → nth a i ≤ v → nth b i ≤ u) → upTo (a.take k) v ≤ upTo (b.take k) u
  | 0, _, _, _ => by simp [upTo]
  | k + 1, h1, h2, h => by
    rw [upTo_take (by omega), upTo_take (by omega)]
    have := upTo_le k (by omega) (by omega) fun i hi => h i (by omega)
    by_cases e : nth a k ≤ v
    · rw [if_pos e, if_pos (h k (by omega) e)]
      omega
    · rw [if_neg e]
      omega
theorem upTo_perm {a b : List Int} (h : a.Perm b) (v : Int) : upTo a v = upTo b v := h.countP_eq _
theorem upTo_less {l : List Int} {v : Int} {i : Nat} : ∀ k, k ≤ l.length → (∀ j, i ≤ j → j < l.length → v < nth l j) → upTo (l.take k) v ≤ i
  | 0, _, _ => by simp [upTo]
  | k + 1, h1, h => by
    rw [upTo_take (by omega)]
    have := upTo_less k (by omega) h
    by_cases e : i ≤ k
    · rw [if_neg (by have := h k e (by omega); omega)]
      omega
    · have h5 : ∀ m, upTo (l.take m) v ≤ m := fun m => by
        unfold upTo
        exact Nat.le_trans List.countP_le_length (by rw [List.length_take]; omega)
      have := h5 k
      split <;> omega
theorem upTo_more {l : List Int} {v : Int} {i : Nat} (h : ∀ j, j ≤ i → nth l j ≤ v) : ∀ k, k ≤ l.length → k ≤ i + 1 → k ≤ upTo (l.take k) v
  | 0, _, _ => Nat.zero_le _
  | k + 1, h1, h2 => by
    rw [upTo_take (by omega), if_pos (h k (by omega))]
    have := upTo_more h k (by omega) (by omega)
    omega
theorem upTo_mono {l : List Int} {v : Int} {k : Nat} : upTo (l.take k) v ≤ upTo l v := List.Sublist.countP_le (List.take_sublist k l)
/-- No order has a less greatest distance than an increasing one. -/
theorem sorted_least {p : Int} {ys zs : List Int} (hp : zs.Perm ys) (hg : good ys p = true) (ha : allPark p ys = true) (hs : ∀ i, i + 1 < ys.length → nth ys i ≤ nth ys (i + 1)) : greatL (dists p ys) ≤ greatL (dists p zs) := by
  have hb := (good_iff.1 hg).2.2
  have hz : good zs p = true := by rw [good_order hp]; exact hg
  have hbz := (good_iff.1 hz).2.2
  have hd := drive_order (p := p) hp fun x hx => by have := hbz x hx; omega
  have hl := hp.length_eq
  have hsl : ∀ i j, i ≤ j → j < ys.length → nth ys i ≤ nth ys j := by
    intro i j
    induction j with
    | zero => intro h1 _; rw [show i = 0 by omega]; exact Int.le_refl _
    | succ j ih =>
      intro h1 h2
      by_cases e : i = j + 1
      · rw [e]; exact Int.le_refl _
      · have := ih (by omega) (by omega); have := hs j h2; omega
  have hinc := incr_of (l := drive p ys) (n := ys.length) fun k hk => drive_step hb ha hk (hs k hk)
  refine (great_iff (great_nonneg _)).2 fun d hdm => ?_
  obtain ⟨i, hi, rfl⟩ := mem_nth hdm
  rw [length_dists] at hi
  rw [nth_dists hi]
  apply Classical.byContradiction
  intro hno
  -- too few places up to where car i would have to be
  have h1 : i + 1 ≤ upTo ys (nth ys i) := Nat.le_trans (upTo_more (i := i) (fun j hj => hsl j i hj hi) (i + 1) (by omega) (Nat.le_refl _)) upTo_mono
  have h2 : upTo zs (nth ys i) ≤ upTo (drive p zs) (nth ys i + greatL (dists p zs)) := by
    have := upTo_le (a := zs) (b := drive p zs) (v := nth ys i) (u := nth ys i + greatL (dists p zs)) zs.length (Nat.le_refl _) (by rw [length_drive]; exact Nat.le_refl _) fun k hk hv => by
      have h3 := (great_iff (great_nonneg (dists p zs))).1 (Int.le_refl _) (nth (dists p zs) k) (nth_mem (by rw [length_dists]; exact hk))
      rw [nth_dists hk] at h3
      omega
    rwa [List.take_length, List.take_of_length_le (by rw [length_drive]; exact Nat.le_refl _)] at this
  have h3 := upTo_less (l := drive p ys) (v := nth ys i + greatL (dists p zs)) (i := i) ys.length (by rw [length_drive]; exact Nat.le_refl _) fun j hj hjl => by
    rw [length_drive] at hjl
    by_cases e : i = j
    · rw [← e]; omega
    · have := hinc i j (by omega) hjl; omega
  rw [List.take_of_length_le (by rw [length_drive]; exact Nat.le_refl _)] at h3
  rw [upTo_perm hp, upTo_perm hd] at h2
  omega
end Go.Proofs.YtnddplldkgphnaaGreat

namespace Go.Proofs.YtnddplldkgphnaaGreat
open Go.RowKit

/-! ### In the order by favourites the k-th car parks at k -/
theorem incr_id {l : List Int} {n : Nat} (h : ∀ i j, i < j → j < n → nth l i < nth l j) (h0 : ∀ i, i < n → 0 ≤ nth l i ∧ nth l i < (n : Int)) : ∀ k, k < n → nth l k = (k : Int) := by
  have lo : ∀ k, k < n → (k : Int) ≤ nth l k := by
    intro k
    induction k with
    | zero => intro hk; exact (h0 0 hk).1
    | succ k ih => intro hk; have := ih (by omega); have := h k (k + 1) (by omega) hk; omega
  have hi : ∀ d k, k + d + 1 = n → nth l k ≤ (k : Int) := by
    intro d
    induction d with
    | zero => intro k hk; have := (h0 k (by omega)).2; omega
    | succ d ih => intro k hk; have := ih (k + 1) (by omega); have := h k (k + 1) (by omega) (by omega); omega
  intro k hk
  have h1 := lo k hk
  have h2 := hi (n - 1 - k) k (by omega)
  omega
theorem unit_fav {xs : List Int} (h : isPark xs = true) (hu : unitB xs 1 = true) {k : Nat} (hk : k < xs.length) :
    nth xs (nth (fairL xs) k).toNat = if st xs k = true then (k : Int) else (k : Int) - 1 := by
  have hb := isPark_bounds h
  obtain ⟨_, hb2, ha⟩ := isPark_iff.1 h
  have hfp := fair_perm h
  have hyp := reord_perm hfp
  have hl := fair_length h
  have hyl : (reordL xs (fairL xs)).length = xs.length := by rw [length_reord, hl]
  have hg : good xs (xs.length : Int) = true := good_iff.2 ⟨by omega, hb.1, fun x hx => by have := hb2 x hx; omega⟩
  have hgp : (good (reordL xs (fairL xs)) (xs.length : Int) && allPark (xs.length : Int) (reordL xs (fairL xs))) = true := reord_park (by rw [hg, ha]; rfl) hfp
  obtain ⟨g1, g2⟩ := Bool.and_eq_true_iff.1 hgp
  have hbz := (good_iff.1 g1).2.2
  have hat : ∀ i, i < xs.length → nth (reordL xs (fairL xs)) i = nth (insSort xs) i := fun i hi => by rw [nth_reord (by omega), fair_at h hi]
  have hs : ∀ i, i + 1 < (reordL xs (fairL xs)).length → nth (reordL xs (fairL xs)) i ≤ nth (reordL xs (fairL xs)) (i + 1) := fun i hi => by
    rw [hyl] at hi
    rw [hat i (by omega), hat (i + 1) hi]
    have hsl := length_insSort xs
    have := List.pairwise_iff_getElem.1 (insSort_sorted xs) i (i + 1) (by omega) (by omega) (by omega)
    simpa [nth, show i < (insSort xs).length by omega, show i + 1 < (insSort xs).length by omega] using this
  have hinc := incr_of (l := drive (xs.length : Int) (reordL xs (fairL xs))) (n := xs.length) fun j hj => drive_step hbz g2 (by omega) (hs j (by omega))
  have hid := incr_id hinc fun i hi => by
    have := drive_bounds hbz g2 _ (nth_mem (xs := drive (xs.length : Int) (reordL xs (fairL xs))) (i := i) (by rw [length_drive]; omega))
    exact this
  have hle : greatL (dists (xs.length : Int) (reordL xs (fairL xs))) ≤ 1 := by
    refine Int.le_trans (sorted_least (zs := xs) hyp.symm g1 g2 hs) ((great_iff (by omega)).2 fun y hy => ?_)
    unfold unitB at hu
    exact (allB_iff.1 hu y hy).2
  have hd := (great_iff (by omega)).1 hle (nth (dists (xs.length : Int) (reordL xs (fairL xs))) k) (nth_mem (by rw [length_dists]; omega))
  rw [nth_dists (by omega), hid k hk, hat k hk] at hd
  have hps := park_sorted h k hk
  have hst := st_at h hk
  rw [fair_at h hk]
  by_cases e : st xs k = true
  · rw [if_pos e]; exact hst.1 e
  · rw [if_neg e]
    have : nth (insSort xs) k ≠ (k : Int) := fun e2 => e (hst.2 e2)
    omega
/-! ### The blocks give the list back -/
theorem blkAt_left {B : List (List Int)} {r : List (List Int)} {k : Nat} (h : k < B.length) : blkAt (B ++ r) k = blkAt B k := by
  unfold blkAt
  rw [List.getD_eq_getElem?_getD, List.getD_eq_getElem?_getD, List.getElem?_append_left h]
theorem blkAt_last {B : List (List Int)} {r : List Int} : blkAt (B ++ [r]) B.length = r := by
  unfold blkAt
  rw [List.getD_eq_getElem?_getD, List.getElem?_append_right (Nat.le_refl _)]
  simp
theorem lenTo_left {B r : List (List Int)} : ∀ k, k ≤ B.length → lenTo (B ++ r) k = lenTo B k
  | 0, _ => rfl
  | k + 1, h => by rw [lenTo, lenTo, lenTo_left k (by omega), blkAt_left (by omega)]
theorem flatTo_left {B r : List (List Int)} : ∀ k, k ≤ B.length → flatTo (B ++ r) k = flatTo B k
  | 0, _ => rfl
  | k + 1, h => by rw [flatTo, flatTo, flatTo_left k (by omega), blkAt_left (by omega)]
theorem plTo_left {n : Nat} {B r : List (List Int)} : ∀ k, k ≤ B.length → plTo n (B ++ r) k = plTo n B k
  | 0, _ => rfl
  | k + 1, h => by rw [plTo, plTo, plTo_left k (by omega), lenTo_left k (by omega), blkAt_left (by omega)]
theorem plIn_left {f : Nat} {b ys r : List Int} : ∀ i, i ≤ b.length → plIn f (b ++ r) ys i = plIn f b ys i
  | 0, _ => rfl
  | i + 1, h => by
    rw [plIn, plIn, plIn_left i (by omega)]
    have : nth (b ++ r) i = nth b i := by simp [nth, List.getElem?_append_left (show i < b.length by omega)]
    rw [this]
/-- Of the first k cars in the order by favourites. -/
structure BackAt (xs ls : List Int) (n k : Nat) : Prop where
  len : lenTo (blk xs ls k) (blk xs ls k).length = k
  flat : flatTo (blk xs ls k) (blk xs ls k).length = ls.take k
  non : nonTo (blk xs ls k) (blk xs ls k).length = true
  pos : 0 < k → 0 < (blk xs ls k).length
  put : ∀ j, j < k → nth (plTo n (blk xs ls k) (blk xs ls k).length) (nth ls j).toNat = nth xs (nth ls j).toNat
theorem nonTo_left {B r : List (List Int)} {k : Nat} (h : k ≤ B.length) : nonTo (B ++ r) k = nonTo B k := by
  unfold nonTo
  rw [Bool.eq_iff_iff, List.all_eq_true, List.all_eq_true]
  refine forall_congr' fun j => forall_congr' fun hj => ?_
  rw [List.mem_range] at hj
  rw [blkAt_left (by omega)]
theorem back_at {xs : List Int} (h : isPark xs = true) (hu : unitB xs 1 = true) (h0 : 0 < xs.length → st xs 0 = true) : ∀ k, k ≤ xs.length → BackAt xs (fairL xs) xs.length k
  | 0, _ => ⟨rfl, by simp [blk, flatTo], rfl, fun e => absurd e (by omega), fun j hj => absurd hj (by omega)⟩
  | k + 1, hk => by
    obtain ⟨i1, i2, i3, i4, i5⟩ := back_at h hu h0 k (by omega)
    have hl := fair_length h
    have hf := unit_fav h hu (k := k) (by omega)
    have hb := isPark_bounds h
    have hlt : ∀ j, j < xs.length → ∃ c : Nat, nth (fairL xs) j = (c : Int) ∧ c < xs.length := fun j hj => by
      obtain ⟨c, c1, c2⟩ := carsP_nth rfl (by omega) (fair_bounds h) hj
      exact ⟨c, c1, c2⟩
    have hne : ∀ j, j < k → nth (fairL xs) j ≠ nth (fairL xs) k := fun j hj e => by
      have hnd : (fairL xs).Nodup := (fair_perm h).nodup_iff.2 (by unfold upto; rw [List.Nodup, List.pairwise_map]; exact List.nodup_range.imp fun h e => h (by omega))
      simp only [nth, List.getD_eq_getElem?_getD, List.getElem?_eq_getElem (show j < (fairL xs).length by omega), List.getElem?_eq_getElem (show k < (fairL xs).length by omega), Option.getD_some] at e
      have := (List.getElem_inj hnd).1 e
      omega
    obtain ⟨c, c1, c2⟩ := hlt k (by omega)
    have hts : (fairL xs).take (k + 1) = (fairL xs).take k ++ [(c : Int)] := by rw [take_succ_nth (by omega), c1]
    rw [c1, Int.toNat_natCast] at hf
    have fin : ∀ (ys : List Int) (v : Int), ys.length = xs.length → (∀ j, j < k → nth ys (nth (fairL xs) j).toNat = nth xs (nth (fairL xs) j).toNat) → v = nth xs c → ∀ j, j < k + 1 → nth (ys.set c v) (nth (fairL xs) j).toNat = nth xs (nth (fairL xs) j).toNat := fun ys v hy hj0 hv j hj => by
      rw [nth_set (by omega)]
      by_cases e : j = k
      · rw [e, c1, Int.toNat_natCast, if_pos rfl, hv]
      · have h1 := hne j (by omega)
        obtain ⟨d, d1, d2⟩ := hlt j (by omega)
        rw [d1, c1] at h1
        rw [if_neg (by rw [d1, Int.toNat_natCast]; omega)]
        exact hj0 j (by omega)
    by_cases e : st xs k = true
    · rw [if_pos e] at hf
      have hB : blk xs (fairL xs) (k + 1) = blk xs (fairL xs) k ++ [[(c : Int)]] := by rw [blk, c1, Int.toNat_natCast, if_pos hf]
      generalize blk xs (fairL xs) k = B at *
      have hlB : (B ++ [[(c : Int)]]).length = B.length + 1 := by simp
      refine ⟨?_, ?_, ?_, ?_, ?_⟩
      · rw [hB, hlB, lenTo, lenTo_left _ (Nat.le_refl _), i1, blkAt_last]; rfl
      · rw [hB, hlB, flatTo, flatTo_left _ (Nat.le_refl _), i2, blkAt_last, hts]
      · rw [hB, hlB, nonTo_succ, nonTo_left (Nat.le_refl _), i3, blkAt_last]; rfl
      · rw [hB]; simp
      · rw [hB, hlB, plTo, plTo_left _ (Nat.le_refl _), lenTo_left _ (Nat.le_refl _), i1, blkAt_last]
        show ∀ j, j < k + 1 → nth ((plTo xs.length B B.length).set (nth [(c : Int)] 0).toNat ((k : Int) + ((0 - 1 : Nat) : Int))) (nth (fairL xs) j).toNat = nth xs (nth (fairL xs) j).toNat
        rw [show (nth [(c : Int)] 0).toNat = c by simp [nth]]
        exact fin _ _ (length_plTo _ _ _) i5 (by rw [hf]; omega)
    · rw [if_neg e] at hf
      have hk0 : 0 < k := by
        rcases Nat.eq_zero_or_pos k with rfl | hp
        · exact absurd (h0 (by omega)) e
        · exact hp
      have hB : blk xs (fairL xs) (k + 1) = addLast (blk xs (fairL xs) k) (c : Int) := by rw [blk, c1, Int.toNat_natCast, if_neg (by rw [hf]; omega)]
      have hp := i4 hk0
      obtain ⟨B, r, hBr⟩ : ∃ B r, blk xs (fairL xs) k = B ++ [r] := ⟨(blk xs (fairL xs) k).dropLast, (blk xs (fairL xs) k).getLast (by intro e; rw [e] at hp; simp at hp), (List.dropLast_concat_getLast _).symm⟩
      rw [hBr, addLast_snoc] at hB
      rw [hBr] at i1 i2 i3 i5
      have hl1 : (B ++ [r]).length = B.length + 1 := by simp
      have hl2 : (B ++ [r ++ [(c : Int)]]).length = B.length + 1 := by simp
      rw [hl1] at i1 i2 i3 i5
      rw [lenTo, lenTo_left _ (Nat.le_refl _), blkAt_last] at i1
      rw [flatTo, flatTo_left _ (Nat.le_refl _), blkAt_last] at i2
      rw [nonTo_succ, nonTo_left (Nat.le_refl _), blkAt_last, Bool.and_eq_true, decide_eq_true_eq] at i3
      rw [plTo, plTo_left _ (Nat.le_refl _), lenTo_left _ (Nat.le_refl _), blkAt_last] at i5
      refine ⟨?_, ?_, ?_, ?_, ?_⟩
      · rw [hB, hl2, lenTo, lenTo_left _ (Nat.le_refl _), blkAt_last, List.length_append, List.length_singleton]; omega
      · rw [hB, hl2, flatTo, flatTo_left _ (Nat.le_refl _), blkAt_last, ← List.append_assoc, i2, hts]
      · rw [hB, hl2, nonTo_succ, nonTo_left (Nat.le_refl _), blkAt_last, i3.1, List.length_append, List.length_singleton, decide_eq_true (by omega)]; rfl
      · rw [hB]; simp
      · rw [hB, hl2, plTo, plTo_left _ (Nat.le_refl _), lenTo_left _ (Nat.le_refl _), blkAt_last, List.length_append, List.length_singleton, plIn, plIn_left _ (Nat.le_refl _)]
        rw [show nth (r ++ [(c : Int)]) r.length = (c : Int) by simp [nth], Int.toNat_natCast]
        refine fin _ _ (by rw [length_plIn, length_plTo]) i5 ?_
        rw [hf]
        have := i3.2
        omega
/-- A unit parking function is made of its blocks. -/
theorem blocks_back {xs : List Int} {bs : List (List Int)} (h : unitBlocksOf xs = (bs, true)) : fromUnit bs = (xs, true) := by
  have h' := h
  unfold unitBlocksOf at h'
  split at h'
  · rename_i hc
    obtain ⟨hp, hu⟩ := Bool.and_eq_true_iff.1 hc
    simp only [Prod.mk.injEq, and_true] at h'
    have hb := isPark_bounds hp
    have hl := fair_length hp
    have h0 : 0 < xs.length → st xs 0 = true := fun hn => (st_iff hp (Nat.zero_le _)).2 (by rw [show ((0 : Nat) : Int) = 0 from rfl, below_zero (fun x hx => (hb.2 x hx).1)]; omega)
    obtain ⟨i1, i2, i3, i4, i5⟩ := back_at hp hu h0 xs.length (Nat.le_refl _)
    rw [h'] at i1 i2 i3 i5
    rw [List.take_of_length_le (by omega)] at i2
    have hpl : placeBl bs = xs := by
      unfold placeBl
      rw [i1]
      refine ext_nth (length_plTo _ _ _) fun j hj => ?_
      rw [length_plTo] at hj
      have hm : (j : Int) ∈ fairL xs := (fair_perm hp).symm.subset (mem_upto.2 ⟨j, hj, rfl⟩)
      obtain ⟨i, hi, e⟩ := mem_nth hm
      have := i5 i (by omega)
      rw [e, Int.toNat_natCast] at this
      exact this
    unfold fromUnit
    rw [if_pos, hpl]
    refine ⟨?_, by rw [hpl]; exact h⟩
    unfold okBl
    rw [i3, i2, Bool.true_and, out_pre]
    refine ⟨by omega, (fair_perm hp).nodup_iff.2 (by unfold upto; rw [List.Nodup, List.pairwise_map]; exact List.nodup_range.imp fun h e => h (by omega)), fun x hx => ?_⟩
    obtain ⟨c, hc, rfl⟩ := mem_upto.1 ((fair_perm hp).subset hx)
    omega
  · simp at h'
end Go.Proofs.YtnddplldkgphnaaGreat

namespace Go.Proofs.YtnddplldkgphnaaGreat
open Go.RowKit

/-- What is known of the drive of a unit parking function. -/
structure UnitD (xs : List Int) : Prop where
  pk : isPark xs = true
  un : unitB xs 1 = true
theorem unit_place {xs : List Int} (_ : isPark xs = true) (hu : unitB xs 1 = true) {i : Nat} (hi : i < xs.length) : nth xs i ≤ nth (drive (xs.length : Int) xs) i ∧ nth (drive (xs.length : Int) xs) i ≤ nth xs i + 1 := by
  unfold unitB at hu
  have := allB_iff.1 hu (nth (dists (xs.length : Int) xs) i) (nth_mem (by rw [length_dists]; exact hi))
  rw [nth_dists hi] at this
  omega
theorem at_car {xs : List Int} (h : isPark xs = true) {i : Nat} (hi : i < xs.length) : ∃ j, j < xs.length ∧ nth (fairL xs) j = (i : Int) := by
  have hm : (i : Int) ∈ fairL xs := (fair_perm h).symm.subset (mem_upto.2 ⟨i, hi, rfl⟩)
  obtain ⟨j, hj, e⟩ := mem_nth hm
  exact ⟨j, by rw [← fair_length h]; exact hj, e⟩
theorem fav_at {xs : List Int} (h : isPark xs = true) (hu : unitB xs 1 = true) {j i : Nat} (hj : j < xs.length) (e : nth (fairL xs) j = (i : Int)) : nth xs i = if st xs j = true then (j : Int) else (j : Int) - 1 := by
  have := unit_fav h hu hj
  rw [e, Int.toNat_natCast] at this
  exact this
/-- A place that a car passes: one car passes it. -/
theorem passes {xs : List Int} (h : isPark xs = true) (hu : unitB xs 1 = true) {k : Nat} (hk : k + 1 < xs.length) (hs : st xs (k + 1) = false) : ∃ i, i < xs.length ∧ nth xs i = (k : Int) ∧ nth (drive (xs.length : Int) xs) i = (k : Int) + 1 := by
  have hb := isPark_bounds h
  obtain ⟨_, hb2, ha⟩ := isPark_iff.1 h
  have hbx : ∀ x ∈ xs, 0 ≤ x ∧ x ≤ (xs.length : Int) - 1 := hb2
  have hnd := drive_nodup hbx ha
  have hbd := drive_bounds hbx ha
  apply Classical.byContradiction
  intro hno
  have hle : ∀ i, i < xs.length → nth xs i ≤ (k : Int) → nth (drive (xs.length : Int) xs) i ≤ (k : Int) := fun i hi hik => by
    apply Classical.byContradiction
    intro hgt
    have := unit_place h hu hi
    exact hno ⟨i, hi, by omega, by omega⟩
  have h1 := upTo_le (a := xs) (b := drive (xs.length : Int) xs) (v := (k : Int)) (u := (k : Int)) xs.length (Nat.le_refl _) (by rw [length_drive]; exact Nat.le_refl _) hle
  rw [List.take_length, List.take_of_length_le (by rw [length_drive]; exact Nat.le_refl _)] at h1
  have h2 : upTo (drive (xs.length : Int) xs) (k : Int) ≤ k + 1 := by
    unfold upTo
    rw [List.countP_eq_length_filter]
    refine nodup_le (k + 1) _ (hnd.filter _) fun x hx => ?_
    obtain ⟨hx1, hx2⟩ := List.mem_filter.1 hx
    have := hbd x hx1
    have : x ≤ (k : Int) := by simpa using hx2
    omega
  have h3 : k + 2 ≤ upTo xs (k : Int) := by
    rw [← upTo_perm (insSort_perm xs)]
    have hsl := length_insSort xs
    refine Nat.le_trans (upTo_more (l := insSort xs) (v := (k : Int)) (i := k + 1) (fun j hj => ?_) (k + 2) (by omega) (Nat.le_refl _)) upTo_mono
    have hps := park_sorted h j (by omega)
    by_cases e : j = k + 1
    · rw [e] at hps ⊢
      have := st_at h (b := k + 1) hk
      have hne : nth (insSort xs) (k + 1) ≠ ((k + 1 : Nat) : Int) := fun e2 => by rw [this.2 e2] at hs; cases hs
      omega
    · omega
  omega
theorem nth_one {l : List Int} (h : l.Nodup) {i j : Nat} (hi : i < l.length) (hj : j < l.length) (e : nth l i = nth l j) : i = j := by
  simp only [nth, List.getD_eq_getElem?_getD, List.getElem?_eq_getElem hi, List.getElem?_eq_getElem hj, Option.getD_some] at e
  exact (List.getElem_inj h).1 e
/-- Where a car finds its favourite taken: by an earlier one. -/
theorem taken_by {xs : List Int} (h : isPark xs = true) {i : Nat} (hi : i < xs.length) (hp : nth (drive (xs.length : Int) xs) i = nth xs i + 1) : ∃ e, e < i ∧ nth (drive (xs.length : Int) xs) e = nth xs i := by
  obtain ⟨_, hb2, ha⟩ := isPark_iff.1 h
  have hbx := hb2 _ (nth_mem hi)
  have hg := drive_get (p := (xs.length : Int)) hi
  rcases place_spec (p := (xs.length : Int)) (out := drive (xs.length : Int) (xs.take i)) _ (nth xs i) (by omega) rfl with ⟨c1, _⟩ | ⟨c1, c2, c3, c4⟩
  · omega
  · have hm := c4 (nth xs i) (Int.le_refl _) (by omega)
    rw [drive_take _ (by omega)] at hm
    obtain ⟨e, he, e2⟩ := mem_nth hm
    rw [List.length_take, length_drive] at he
    refine ⟨e, by omega, ?_⟩
    rw [← e2]
    simp [nth, show e < i by omega]
theorem block_rises {xs : List Int} (h : isPark xs = true) (hu : unitB xs 1 = true) {k c d : Nat} (hk : k + 1 < xs.length) (hs : st xs (k + 1) = false) (hc : nth (fairL xs) k = (c : Int)) (hd : nth (fairL xs) (k + 1) = (d : Int)) (hcn : c < xs.length) (hdn : d < xs.length) : c < d := by
  have hb := isPark_bounds h
  obtain ⟨_, hb2, ha⟩ := isPark_iff.1 h
  have hl := fair_length h
  have hlnd : (fairL xs).Nodup := (fair_perm h).nodup_iff.2 (by unfold upto; rw [List.Nodup, List.pairwise_map]; exact List.nodup_range.imp fun h e => h (by omega))
  have hnd := drive_nodup hb2 ha
  have hdl := length_drive (xs.length : Int) xs
  have fd : nth xs d = (k : Int) := by have := fav_at h hu hk hd; rw [if_neg (by rw [hs]; simp)] at this; omega
  have fc := fav_at h hu (by omega) hc
  have stab : ∀ j x y : Nat, j + 1 < xs.length → nth (fairL xs) j = (x : Int) → nth (fairL xs) (j + 1) = (y : Int) → nth xs x = nth xs y → x < y := fun j x y hj hx hy hxy => by
    have hso := carsTo_sorted (xs := xs) (by omega) (fun c hc => (fair_bounds h c (by omega)).1) 12
    have e1 := List.pairwise_iff_getElem.1 hso j (j + 1) (by show j < (fairL xs).length; omega) (by show j + 1 < (fairL xs).length; omega) (by omega)
    have e2 : (carsTo xs 12)[j]'(by show j < (fairL xs).length; omega) = (x : Int) := by
      rw [← hx]; unfold fairL; simp [nth, show j < (carsTo xs 12).length from by show j < (fairL xs).length; omega]
    have e3 : (carsTo xs 12)[j + 1]'(by show j + 1 < (fairL xs).length; omega) = (y : Int) := by
      rw [← hy]; unfold fairL; simp [nth, show j + 1 < (carsTo xs 12).length from by show j + 1 < (fairL xs).length; omega]
    rw [e2, e3] at e1
    unfold keyC at e1
    rw [Int.toNat_natCast, Int.toNat_natCast, hxy] at e1
    have : x ≠ y := fun e => by
      have := nth_one hlnd (i := j) (j := j + 1) (by omega) (by omega) (by rw [hx, hy, e])
      omega
    omega
  by_cases e : st xs k = true
  · rw [if_pos e] at fc
    exact stab k c d hk hc hd (by rw [fc, fd])
  · rw [if_neg e] at fc
    have e' : st xs k = false := by simpa using e
    obtain ⟨u, hu'⟩ : ∃ u, k = u + 1 := by
      rcases Nat.eq_zero_or_pos k with rfl | hp
      · have := (hb2 _ (nth_mem hcn)).1; omega
      · exact ⟨k - 1, by omega⟩
    subst hu'
    -- d is the car that passes its favourite
    obtain ⟨i, hi, i1, i2⟩ := passes h hu hk hs
    obtain ⟨j, hj, j1⟩ := at_car h hi
    have fj := fav_at h hu hj j1
    have hjd : j = u + 1 + 1 := by
      by_cases ej : st xs j = true
      · rw [if_pos ej] at fj
        have : j = u + 1 := by omega
        rw [this] at ej
        exact absurd ej e
      · rw [if_neg ej] at fj; omega
    have hid : i = d := by rw [hjd, hd] at j1; omega
    subst hid
    obtain ⟨q, hq, q1⟩ := taken_by h hi (by rw [i2, i1])
    rw [i1] at q1
    -- q is the car that passes u
    obtain ⟨v, hv, v1, v2⟩ := passes h hu (k := u) (by omega) e'
    have hqv : q = v := nth_one hnd (by omega) (by omega) (by rw [q1, v2]; omega)
    subst hqv
    obtain ⟨m, hm, m1⟩ := at_car h hv
    have fm := fav_at h hu hm m1
    by_cases em : st xs m = true
    · rw [if_pos em] at fm
      have hmu : m = u := by omega
      subst hmu
      -- the first of two with this favourite: it would have found it taken by the second
      have hqc := stab m q c (by omega) m1 hc (by rw [v1, fc]; omega)
      obtain ⟨z, hz, z1⟩ := taken_by h hv (by rw [v2, v1])
      rw [v1] at z1
      have hpc := unit_place h hu hcn
      have hcz : nth (drive (xs.length : Int) xs) c = (m : Int) := by
        have : nth (drive (xs.length : Int) xs) c ≠ (m : Int) + 1 := fun e2 => by
          have := nth_one hnd (i := c) (j := q) (by omega) (by omega) (by rw [e2, v2])
          omega
        omega
      have := nth_one hnd (i := c) (j := z) (by omega) (by omega) (by rw [hcz, z1])
      omega
    · rw [if_neg em] at fm
      have hmu : m = u + 1 := by omega
      rw [hmu, hc] at m1
      omega
end Go.Proofs.YtnddplldkgphnaaGreat

namespace Go.Proofs.YtnddplldkgphnaaGreat
open Go.RowKit

/-- Of the first k cars. -/
structure NbAt (xs ls : List Int) (k : Nat) : Prop where
  last : 0 < k → ∃ B r, blk xs ls k = B ++ [r] ∧ 0 < r.length ∧ nth r (r.length - 1) = nth ls (k - 1)
  nb : ∀ j i, j < (blk xs ls k).length → i + 1 < (blkAt (blk xs ls k) j).length → ∃ p, p + 1 < k ∧ nth (blkAt (blk xs ls k) j) i = nth ls p ∧ nth (blkAt (blk xs ls k) j) (i + 1) = nth ls (p + 1) ∧ st xs (p + 1) = false
theorem nth_left {a b : List Int} {i : Nat} (h : i < a.length) : nth (a ++ b) i = nth a i := by simp [nth, List.getElem?_append_left h]
theorem nth_end {a : List Int} {c : Int} : nth (a ++ [c]) a.length = c := by simp [nth]
theorem nb_at {xs : List Int} (h : isPark xs = true) (hu : unitB xs 1 = true) : ∀ k, k ≤ xs.length → NbAt xs (fairL xs) k
  | 0, _ => ⟨fun e => absurd e (by omega), fun j i hj => by simp [blk] at hj⟩
  | k + 1, hk => by
    obtain ⟨i1, i2⟩ := nb_at h hu k (by omega)
    have hf := unit_fav h hu (k := k) (by omega)
    by_cases e : nth xs (nth (fairL xs) k).toNat = (k : Int)
    · have hB : blk xs (fairL xs) (k + 1) = blk xs (fairL xs) k ++ [[nth (fairL xs) k]] := by rw [blk, if_pos e]
      refine ⟨fun _ => ⟨_, _, hB, by simp, by simp [nth]⟩, fun j i hj hi => ?_⟩
      rw [hB] at hj hi ⊢
      by_cases hjl : j < (blk xs (fairL xs) k).length
      · rw [blkAt_left hjl] at hi ⊢
        obtain ⟨p, p1, p2⟩ := i2 j i hjl hi
        exact ⟨p, by omega, p2⟩
      · obtain rfl : j = (blk xs (fairL xs) k).length := by simp at hj; omega
        rw [blkAt_last] at hi
        simp at hi
    · have hs : st xs k = false := by
        by_cases e2 : st xs k = true
        · rw [if_pos e2] at hf; exact absurd hf e
        · simpa using e2
      rcases Nat.eq_zero_or_pos k with rfl | hk0
      · have : st xs 0 = true := (st_iff h (Nat.zero_le _)).2 (by rw [show ((0 : Nat) : Int) = 0 from rfl, below_zero (fun x hx => ((isPark_bounds h).2 x hx).1)]; omega)
        rw [this] at hs
        cases hs
      · obtain ⟨B, r, hBr, hr0, hrl⟩ := i1 hk0
        have hB : blk xs (fairL xs) (k + 1) = B ++ [r ++ [nth (fairL xs) k]] := by rw [blk, if_neg e, hBr, addLast_snoc]
        refine ⟨fun _ => ⟨_, _, hB, by simp, ?_⟩, fun j i hj hi => ?_⟩
        · rw [List.length_append, List.length_singleton, Nat.add_sub_cancel, nth_end, Nat.add_sub_cancel]
        · rw [hB] at hj hi ⊢
          rw [hBr] at i2
          by_cases hjl : j < B.length
          · rw [blkAt_left hjl] at hi ⊢
            have := i2 j i (by simp; omega) (by rw [blkAt_left hjl]; exact hi)
            rw [blkAt_left hjl] at this
            obtain ⟨p, p1, p2⟩ := this
            exact ⟨p, by omega, p2⟩
          · obtain rfl : j = B.length := by simp at hj; omega
            rw [blkAt_last] at hi ⊢
            rw [List.length_append, List.length_singleton] at hi
            by_cases hir : i + 1 < r.length
            · have := i2 B.length i (by simp) (by rw [blkAt_last]; exact hir)
              rw [blkAt_last] at this
              obtain ⟨p, p1, p2, p3, p4⟩ := this
              exact ⟨p, by omega, by rw [nth_left (by omega)]; exact p2, by rw [nth_left hir]; exact p3, p4⟩
            · have hi2 : i + 1 = r.length := by omega
              refine ⟨k - 1, by omega, ?_, ?_, by rw [show k - 1 + 1 = k by omega]; exact hs⟩
              · rw [nth_left (by omega), ← hrl]
                congr 1
                omega
              · rw [hi2, nth_end, show k - 1 + 1 = k by omega]
/-- The cars of a block rise. -/
theorem blocks_rise {xs : List Int} {bs : List (List Int)} (h : unitBlocksOf xs = (bs, true)) : ∀ j i, j < bs.length → i + 1 < (blkAt bs j).length → nth (blkAt bs j) i < nth (blkAt bs j) (i + 1) := by
  unfold unitBlocksOf at h
  split at h
  · rename_i hc
    obtain ⟨hp, hu⟩ := Bool.and_eq_true_iff.1 hc
    simp only [Prod.mk.injEq, and_true] at h
    intro j i hj hi
    subst h
    obtain ⟨p, p1, p2, p3, p4⟩ := (nb_at hp hu xs.length (Nat.le_refl _)).nb j i hj hi
    obtain ⟨c, c1, c2⟩ := carsP_nth rfl (by have := (isPark_bounds hp).1; omega) (fair_bounds hp) (k := p) (by omega)
    obtain ⟨d, d1, d2⟩ := carsP_nth rfl (by have := (isPark_bounds hp).1; omega) (fair_bounds hp) (k := p + 1) (by omega)
    have c1' : nth (fairL xs) p = (c : Int) := c1
    have d1' : nth (fairL xs) (p + 1) = (d : Int) := d1
    have := block_rises hp hu p1 p4 c1' d1' c2 d2
    rw [p2, p3, c1', d1']
    omega
  · simp at h
end Go.Proofs.YtnddplldkgphnaaGreat

namespace Go.Proofs.YtnddplldkgphnaaGreat
open Go.RowKit

end Go.Proofs.YtnddplldkgphnaaGreat

namespace Go.Proofs.YtnddplldkgphnaaGreat
open Go.RowKit

/-- The first k numbers of a mixture are laid. -/
def Mixed (zs ys : List Int) (k : Nat) : Prop := ∀ i, i < k → nth ys i = nth zs i

theorem mix_nth {xs ys : List Int} {low : Bool} {k : Nat} (hx : k < xs.length) (hy : k < ys.length) : nth (mixWith xs ys low) k = if low then min (nth xs k) (nth ys k) else max (nth xs k) (nth ys k) := by
  simp [nth, mixWith, List.getElem?_zipWith, hx, hy]

end Go.Proofs.YtnddplldkgphnaaGreat

namespace Go.Proofs.YtnddplldkgphnaaGreat
open Go.RowKit

set_option maxHeartbeats 400000 in
theorem sort_any (B : Nat) (a : Option Addr) (n cap : Nat) (xs : List Int) (w : World) (h : Own w B a n cap xs) :
    Calls Tryz.prog 84 #[.slice a n cap] w fun e w' => e = .returned (.tuple #[]) ∧ Own w' B a n cap (insSort xs) ∧ Marked w w' a := by
  have hlen := h.len
  by_cases h0 : n = 0
  · subst h0
    refine (Tryz.slices_Sort_int_none a cap w).mono fun e w' ⟨he, hw⟩ => ⟨he, ?_, ?_⟩
    · subst hw
      obtain rfl : xs = [] := List.eq_nil_of_length_eq_zero hlen
      exact h
    · subst hw
      exact ⟨none, World.grownBy.refl _ _, by simp⟩
  · obtain ⟨g, rfl, hg1, hg2, hg3, hg4⟩ := h.opened (by omega)
    have hH : Go.Sort.Holds (Value.int .i64) w g 0 xs.toArray := by
      intro j hj
      have hj' : j < xs.length := by simpa using hj
      refine ⟨?_, hg4 _⟩
      rw [Nat.zero_add, hg3 j (by omega)]
      simp [nth, hj']
    subst hlen
    have hle := h.le
    refine (Tryz.slices_Sort_int g 0 cap xs w hH hg2 (by omega)).mono fun e w' ⟨he, k, os, hw⟩ => ⟨he, ?_, ?_⟩
    · rw [mergeSort_insSort] at hw
      subst hw
      rcases h.1.2 with ⟨h1, _⟩ | ⟨g', cap', cur, hv, hbase, hb, h1, h2, h3, h4⟩
      · simp at h1
      · simp at hv
        obtain ⟨rfl, rfl⟩ := hv
        exact ⟨Go.ownsRow_sortedI (length_insSort xs) hbase hb h1 h2 h3, length_insSort xs, hle⟩
    · subst hw
      exact ⟨some g, Go.grownBy_sortedI _, fun g' hg' => ⟨_, rfl, by simpa using hg'⟩⟩

set_option maxHeartbeats 400000 in
theorem clone_any (a : Option Addr) (n cap : Nat) (xs : List Int) (w : World) (h : Has w a n cap xs) :
    Calls Tryz.prog 31 #[.slice a n cap] w fun e w' => ∃ a' cap', e = .returned (.slice a' n cap') ∧ Own w' w.heap.size a' n cap' xs ∧ Below w.heap.size w w' := by
  obtain ⟨h0, h1, h2, h3, h4⟩ := h
  by_cases hn : n = 0
  · subst hn
    obtain rfl : xs = [] := List.eq_nil_of_length_eq_zero h0
    cases a with
    | none => exact (Tryz.slices_Clone_int_nil 0 cap w).mono fun e w' ⟨he, hw⟩ => by subst hw; exact ⟨none, 0, he, Own.nil _ _, Below.refl _ _⟩
    | some p =>
      refine (Tryz.slices_Clone_int_zero p cap w).mono fun e w' ⟨v', he, ho, _, hb⟩ => ?_
      obtain ⟨a', cap', rfl, ho'⟩ := own_of_row (xs := []) ho rfl rfl (by simp)
      exact ⟨a', cap', he, ho', hb⟩
  · obtain ⟨b, off, rfl, _, hc⟩ := h4 (by omega)
    refine (Tryz.slices_Clone_int b off n cap xs w (by omega) (by omega) (fun j hj => hc j (by omega))).mono fun e w' ⟨v', he, ho, _, hb⟩ => ?_
    obtain ⟨a', cap', rfl, ho'⟩ := own_of_row (xs := xs) ho h0.symm (by rw [List.take_of_length_le (by omega)]) (by omega)
    exact ⟨a', cap', he, ho', hb⟩

end Go.Proofs.YtnddplldkgphnaaGreat

namespace Go.Proofs.YtnddplldkgphnaaGreat
open Go.RowKit

set_option maxHeartbeats 800000 in
theorem isUnder_any (a b : Option Addr) (n cap m capb : Nat) (xs bs : List Int) (w : World) (h : Has w a n cap xs) (h' : Has w b m capb bs) (hnm : n ≤ m) :
    Calls Tryz.prog 81 #[.slice a n cap, .slice b m capb] w fun e w' => e = .returned (.bool (undTo (insSort xs) bs n)) ∧ Below w.heap.size w w' := by
  go_enter Tryz.func81, Tryz.ntmps81
  go_wp2_with fail
  refine (clone_any _ _ _ _ _ h).mono ?_
  rintro e w1 ⟨a1, cap1, rfl, hown1, hb1⟩
  go_wp2_with fail
  refine (sort_any _ _ _ _ _ _ hown1).mono ?_
  rintro e w2 ⟨rfl, hown2, hm2⟩
  have hb2 := hb1.trans (hm2.below hown1.ge hb1.size)
  have h2 := h'.below hb2 (Nat.le_refl _)
  obtain ⟨k0, k1, k2, k3, k4⟩ := hown2.has
  obtain ⟨-, j1, j2, -, j4⟩ := h2
  clear k0 hm2 hown1 hown2 hb1
  go_wp2_with fail
  go_loop [14] (fun i => ∃ k : Nat, k ≤ n ∧ i = .int .i64 k ∧ Hid (undTo (insSort xs) bs k = true)) (fun i => n - (intOf i).toNat)
  case atStart => exact ⟨0, Nat.zero_le _, rfl, hid rfl⟩
  case round =>
    obtain ⟨k, hk, rfl, HF⟩ := hrel
    by_cases hlt : k < n
    · obtain ⟨b1, off1, rfl, hbb1, hc1⟩ := k4 (by omega)
      obtain ⟨b2, off2, rfl, hbb2, hc2⟩ := j4 (by omega)
      have hck1 := hc1 k hlt
      have hck2 := hc2 k (by omega)
      have hkm : (k : Int) < (m : Int) := by omega
      have hkz : (0 : Int) ≤ (k : Int) := by omega
      clear hc1 hc2 k4 j4
      by_cases hz : nth (insSort xs) k < 0
      · have HU2 : Hid (undTo (insSort xs) bs n = false) := hid (undTo_no hlt fun hh => by omega)
        go_wp2_with fail
        go_ret
        exact ⟨ret_bool HU2.out.symm, hb2⟩
      · by_cases ht : nth (insSort xs) k ≤ nth bs k
        · have HU2 : Hid (undTo (insSort xs) bs (k + 1) = true) := hid (by rw [undTo_succ, HF.out]; simp [ht]; omega)
          go_wp2_with fail
          go_round
          case rel => exact ⟨k + 1, by omega, by go_num, HU2⟩
          case measure => simp [intOf]; omega
        · have HU2 : Hid (undTo (insSort xs) bs n = false) := hid (undTo_no hlt fun hh => ht hh.2)
          go_wp2_with fail
          go_ret
          exact ⟨ret_bool HU2.out.symm, hb2⟩
    · obtain rfl : k = n := by omega
      go_wp2_with fail
      go_ret
      exact ⟨ret_bool HF.out.symm, hb2⟩

end Go.Proofs.YtnddplldkgphnaaGreat

namespace Go.Proofs.YtnddplldkgphnaaGreat
open Go.RowKit

/-- Numbers laid over the first ones. -/
def over0 (xs ys : List Int) : List Int := ys.take xs.length ++ xs.drop ys.length
theorem length_over0 (xs ys : List Int) : (over0 xs ys).length = xs.length := by simp [over0]; omega
theorem over0_all {xs ys : List Int} (h : ys.length = xs.length) : over0 xs ys = ys := by
  simp [over0, h, List.take_of_length_le (Nat.le_of_eq h)]
theorem over0_nth {xs ys : List Int} (h : ys.length ≤ xs.length) (i : Nat) : nth (over0 xs ys) i = if i < ys.length then nth ys i else nth xs i := by
  unfold over0
  rw [List.take_of_length_le h]
  split
  · rw [nth_append_left (by assumption)]
  · simp only [nth, List.getD_eq_getElem?_getD, List.getElem?_append, List.getElem?_drop]
    rw [if_neg (by assumption), show ys.length + (i - ys.length) = i by omega]

theorem wpList_copy_intsT (T S : TypeId) (hT : Tryz.prog.underlying T = some (.slice 3)) {ops : Array Oper} {rest : List Oper} {o : Oper} {a : Act} {Q : Exit → Act → World → Prop} (w : World) (hgd : o.guard = none) (d s : Operand)
    (ho : o.op = .call { callee := .builtin .copy, args := #[d, s], argTypes := #[T, S] })
    (B : Nat) (a0 a1 : Option Addr) (n m cap cap1 : Nat) (xs ys : List Int) (hd : a.eval d = .slice a0 n cap) (hs : a.eval s = .slice a1 m cap1)
    (hown : Own w B a0 n cap xs) (hhas : Has w a1 m cap1 ys) (hmn : m ≤ n)
    (h : ∀ w', Own w' B a0 n cap (over0 xs ys) → Below B w w' → wpList Tryz.prog ops Q rest (a.put o.dst (.int .i64 (m : Int))) w') :
    wpList Tryz.prog ops Q (o :: rest) a w := by
  have hlx := hown.len
  have hly := hhas.len
  obtain ⟨⟨h1, h2⟩, h3⟩ := hown
  obtain ⟨i0, hi, hz0, hz1, hz2⟩ := info_parts Tryz.infoInt
  have hsz : (Tryz.prog.info? 3).map (·.size) = some 1 := by rw [hi]; simp [hz1]
  rcases h2 with ⟨hv, hn⟩ | ⟨g, cap', cur, hv, hg, hh, hnc, hcm, hcs, htake⟩
  · simp at hv
    obtain ⟨rfl, _, rfl⟩ := hv
    obtain rfl : m = 0 := by omega
    refine wpList_copy_nothing hgd d s T S ho 3 hT hsz none a1 n 0 0 cap1 hd hs (by simp) ?_
    have hx : xs = [] := List.eq_nil_of_length_eq_zero (by omega)
    have hy : ys = [] := List.eq_nil_of_length_eq_zero (by omega)
    subst hx hy
    exact h w ⟨⟨h1, .inl ⟨by simp; omega, hn⟩⟩, h3⟩ (Below.refl _ _)
  · simp at hv
    obtain ⟨rfl, rfl⟩ := hv
    refine wpList_copy_splice hgd d s T S ho 3 hT hsz (some ⟨g, 0, none⟩) a1 n cap m cap1 hd hs g 0 cur.toList 3 (by simpa using hh) (ys.map (Value.int .i64)) (by rw [List.length_map, hly]; exact (Nat.min_eq_left hmn).symm) (fun hp => ⟨rfl, ?_⟩) (by simp; omega) (by intro v hv; obtain ⟨y, _, rfl⟩ := List.mem_map.1 hv; rfl) B w (Below.refl _ _) hg ?_
    · obtain ⟨b, off, rfl, _, _⟩ := hhas.2.2.2.2 (by simp at hp; omega)
      exact ⟨_, rfl, has_cells hhas⟩
    · intro w' hw' hb
      have e : (a.put o.dst (goInt (ys.map (Value.int .i64)).length)) = a.put o.dst (.int .i64 (m : Int)) := by simp [goInt, hly]
      rw [e]
      refine h w' ⟨⟨by rw [List.length_map, length_over0]; simpa using h1, .inr ⟨g, cap, _, rfl, hg, hw'.out, hnc, hcm, ?_, ?_⟩⟩, by rw [length_over0]; exact h3.1, h3.2⟩ hb
      · simp only [splice, Nat.zero_add, List.length_map]
        simp
        omega
      · have ht : cur.toList.take n = xs.map (Value.int .i64) := by simpa using htake
        simp only [splice, List.take_zero, List.nil_append, Nat.zero_add, List.length_map, Nat.mul_one, over0, List.map_append, List.map_take, List.map_drop]
        rw [List.take_append, List.take_of_length_le (by simp; omega), List.length_map, ← ht, List.take_of_length_le (l := ys.map (Value.int .i64)) (by simp; omega), List.drop_take]
theorem wpList_copy_ints {ops : Array Oper} {rest : List Oper} {o : Oper} {a : Act} {Q : Exit → Act → World → Prop} (w : World) (hgd : o.guard = none) (d s : Operand)
    (ho : o.op = .call { callee := .builtin .copy, args := #[d, s], argTypes := #[24, 24] })
    (B : Nat) (a0 a1 : Option Addr) (n m cap cap1 : Nat) (xs ys : List Int) (hd : a.eval d = .slice a0 n cap) (hs : a.eval s = .slice a1 m cap1)
    (hown : Own w B a0 n cap xs) (hhas : Has w a1 m cap1 ys) (hmn : m ≤ n)
    (h : ∀ w', Own w' B a0 n cap (over0 xs ys) → Below B w w' → wpList Tryz.prog ops Q rest (a.put o.dst (.int .i64 (m : Int))) w') :
    wpList Tryz.prog ops Q (o :: rest) a w := wpList_copy_intsT 24 24 Tryz.underlying24 w hgd d s ho B a0 a1 n m cap cap1 xs ys hd hs hown hhas hmn h

/-- 'make(T, n)' of integers. -/
theorem wpList_make_intsT (T : TypeId) (hT : Tryz.prog.underlying T = some (.slice 3)) {ops : Array Oper} {rest : List Oper} {o : Oper} {a : Act} {Q : Exit → Act → World → Prop} (w : World) (hgd : o.guard = none) (l c : Operand) (ho : o.op = Op.makeSlice T l c)
    (n : Nat) (hl : a.eval l = .int .i64 (n : Int)) (hc : a.eval c = .int .i64 (n : Int)) (hn : n ≤ 2097152)
    (h : ∀ a' cap' w', Own w' w.heap.size a' n cap' (List.replicate n 0) → Below w.heap.size w w' → wpList Tryz.prog ops Q rest (a.put o.dst (.slice a' n cap')) w') :
    wpList Tryz.prog ops Q (o :: rest) a w := by
  obtain ⟨i0, hi, hz0, hz1, hz2⟩ := info_parts Tryz.infoInt
  refine wpList_make_full (P := Tryz.prog) w hgd l c T ho w.heap.size 3 i0 (.int .i64 0) 1 hT hi hz0 hz1 .i64 .i64 n n n hl hc rfl rfl (by rw [hz2]; omega) (by unfold maxLen; omega) (Nat.le_refl _) ?_
  intro w' hown hgrow
  obtain ⟨a', cap', hv, ho'⟩ := own_of_row (xs := List.replicate n 0) hown (by simp) (by rw [show (Value.int IntKind.i64 0).cells = #[.int .i64 0] from rfl, toList_madeCells_one]; simp) (by simpa using hn)
  rw [hv]
  exact h _ _ _ ho' (below_grown hgrow (Nat.le_refl _) (by simp))
end Go.Proofs.YtnddplldkgphnaaGreat

namespace Go.Proofs.YtnddplldkgphnaaGreat
open Go.RowKit

theorem over0_candU {xs : List Int} {n c : Nat} (hn : xs.length = n) (hc : c < n) : (over0 (List.replicate n 0) (xs.take (c + 1))).set c (nth xs c + 1) = cand xs c := by
  refine ext_nth (by rw [List.length_set, length_over0, length_cand (by omega)]; simp [hn]) fun i hi => ?_
  rw [List.length_set, length_over0, List.length_replicate] at hi
  rw [nth_set (by rw [length_over0, List.length_replicate]; omega), over0_nth (by simp; omega)]
  have hl : (xs.take c).length = c := by simp; omega
  unfold cand
  by_cases e : c = i
  · subst e
    rw [if_pos rfl]
    simp only [nth, List.getD_eq_getElem?_getD]
    rw [List.getElem?_append_right (by omega)]
    simp [hl]
  · rw [if_neg e]
    by_cases h : i < c
    · rw [if_pos (by simp; omega), nth_take (by omega), nth_append_left (by omega), nth_take h]
    · rw [if_neg (by simp; omega)]
      simp only [nth, List.getD_eq_getElem?_getD]
      rw [List.getElem?_append_right (by omega), hl]
      obtain ⟨d, hd⟩ : ∃ d, i - c = d + 1 := ⟨i - c - 1, by omega⟩
      rw [hd]
      simp only [List.getElem?_cons_succ, List.getElem?_replicate]
      split <;> split <;> rfl

set_option maxRecDepth 100000 in
set_option maxHeartbeats 2000000 in
theorem nextU_any (a b : Option Addr) (n cap capb : Nat) (xs bs : List Int) (w : World) (h : Has w a n cap xs) (h' : Has w b n capb bs) (h8 : n ≤ 8) (hx : ∀ i, i < n → 0 ≤ nth xs i ∧ nth xs i ≤ 13) :
    Calls Tryz.prog 77 #[.slice a n cap, .slice b n capb] w (PostInts w (nextU bs xs n)) := by
  have HLEN := hid h.len
  have HX := hid hx
  have hcap := h.2.1
  have hmx : cap ≤ maxLen := h.2.2.1
  have hcapb := h'.2.1
  clear hx
  go_enter Tryz.func77, Tryz.ntmps77
  go_wp2_with fail
  go_loopw [6] (fun i wr => ∃ c : Nat, c ≤ n ∧ i = .int .i64 ((c : Int) - 1) ∧ Hid (nextU bs xs n = nextU bs xs c) ∧ Below w.heap.size w wr) (fun i _ => (intOf i + 1).toNat)
  case atStart => exact ⟨n, Nat.le_refl _, rfl, hid rfl, Below.refl _ _⟩
  case round =>
    obtain ⟨c, hc, rfl, HN, hb⟩ := hrel
    match c, hc, HN with
    | 0, hc, HN =>
      go_wp2_with fail
      go_ret2
      exact postInts_no (by rw [HN.out]; rfl) hb
    | c + 1, hc, HN =>
      have e : ((c + 1 : Nat) : Int) - 1 = (c : Int) := by omega
      rw [e]
      have hsz := hb.size
      have ht := (h.take (k := c + 1) (by omega)).below hb (Nat.le_refl _)
      have ht' := h'.below hb (Nat.le_refl _)
      obtain ⟨bk, off, rfl, hbb, hcc⟩ := h.2.2.2.2 (by omega)
      obtain ⟨x0, x1⟩ := HX.out c (by omega)
      have HC := hid (over0_candU HLEN.out (show c < n by omega))
      have HS : Hid (nextU bs xs (c + 1) = if und bs (cand xs c) then (cand xs c, true) else nextU bs xs c) := hid rfl
      have HUN : Hid (undTo (insSort (cand xs c)) bs n = und bs (cand xs c)) := hid (by unfold und; rw [length_cand (by rw [HLEN.out]; omega), HLEN.out])
      have hcn : (c : Int) < (n : Int) := by omega
      have hnth : nth (over0 (List.replicate n 0) (xs.take (c + 1))) c = nth xs c := by
        rw [over0_nth (by simp; omega), if_pos (by simp [HLEN.out]; omega), nth_take (by omega)]
      have HNTH := hid hnth
      clear e hcc hnth
      go_wp2_with (first
        | (at_make; refine wpList_make_ints _ rfl _ _ rfl n rfl rfl (by omega) ?_; intro a1 cap1 w1 hown1 hb1)
        | (with_reducible refine wpList_copy_ints _ rfl _ _ rfl wr.heap.size _ _ _ _ _ _ _ _ rfl rfl hown1 (ht.below hb1 (Nat.le_refl _)) (by omega) ?_; intro w2 hown2 hb2; obtain ⟨g1, rfl, hg1, hg2, hg3, hg4⟩ := hown2.opened (by omega); have hgk := hg3 c (by omega); rw [HNTH.out] at hgk; have hgf := hg4 c; clear hg3 hg4))
      obtain ⟨s1, s2⟩ := hown2.set c (nth xs c + 1)
      rw [HC.out] at s1
      have hb3 := (hb1.trans hb2).setCell (p := ⟨g1, c, none⟩) hg1 (.int .i64 (nth xs c + 1))
      clear hown1 hown2 hb1 hb2 s2 hgk hgf
      refine (isUnder_any _ _ _ _ _ _ _ _ _ s1.has (ht'.below hb3 (Nat.le_refl _)) (Nat.le_refl _)).mono ?_
      rw [HUN.out]
      rintro e w4 ⟨rfl, hb4⟩
      have s4 := s1.below hb4 (Nat.le_refl _)
      have hb5 := hb3.trans (hb4.mono hb3.size)
      have hbw := hb.trans (hb5.mono hsz)
      by_cases hp : und bs (cand xs c) = true
      · have HR : Hid (nextU bs xs n = (cand xs c, true)) := hid (by rw [HN.out, HS.out, if_pos hp])
        rw [hp]
        clear hp
        go_wp2_with fail
        go_ret2
        exact postInts HR.out (s4.mono hsz) hbw
      · have HR : Hid (nextU bs xs n = nextU bs xs c) := hid (by rw [HN.out, HS.out, if_neg hp])
        rw [Bool.eq_false_iff.2 hp]
        clear hp
        go_wp2_with fail
        go_roundw
        case rel => exact ⟨c, by omega, by go_num, HR, hbw⟩
        case measure => simp [intOf]

/-- The list behind, as far as laid out: from c on, those before i are new. -/
def SPartU (xs : List Int) (c i : Nat) (zs : List Int) : Prop := ∀ j, j < xs.length → nth zs j = if c ≤ j ∧ j < i then nth xs c + 1 else nth xs j
theorem spartU_step {xs zs : List Int} {c i : Nat} (h : SPartU xs c i zs) (hl : zs.length = xs.length) (hi : i < xs.length) (hc : c ≤ i) : SPartU xs c (i + 1) (zs.set i (nth xs c + 1)) := fun j hj => by
  rw [nth_set (by omega)]
  by_cases e : i = j
  · subst e; rw [if_pos rfl, if_pos ⟨hc, by omega⟩]
  · rw [if_neg e, h j hj]
    have : (c ≤ j ∧ j < i) = (c ≤ j ∧ j < i + 1) := by apply propext; omega
    simp only [this]
theorem spartU_done {xs zs : List Int} {c : Nat} (h : SPartU xs c xs.length zs) (hl : zs.length = xs.length) (hc : c < xs.length) : xs.take c ++ List.replicate (xs.length - c) (nth xs c + 1) = zs := by
  have hlt : (xs.take c).length = c := by simp; omega
  refine ext_nth (by simp; omega) fun j hj => ?_
  simp at hj
  rw [h j (by omega)]
  by_cases e : j < c
  · rw [nth_append_left (by omega), nth_take e, if_neg (by omega)]
  · rw [if_pos ⟨by omega, by omega⟩]
    simp only [nth, List.getD_eq_getElem?_getD]
    rw [List.getElem?_append_right (by omega), hlt, List.getElem?_replicate, if_pos (by omega)]
    rfl

end Go.Proofs.YtnddplldkgphnaaGreat

namespace Go.Proofs.YtnddplldkgphnaaGreat
open Go.RowKit

set_option maxHeartbeats 800000 in
theorem pnext_any (a : Option Addr) (n cap : Nat) (xs : List Int) (w : World) (h : Has w a n cap xs) (h8 : n ≤ 8) (hx : ∀ i, i < n → 0 ≤ nth xs i ∧ nth xs i ≤ 8) :
    Calls Tryz.prog 67 #[.slice a n cap] w (PostInts w (nextP xs n)) := by
  have HE := hid (nextU_idx h.len h8 n (Nat.le_refl _))
  have HX : Hid (∀ i, i < n → 0 ≤ nth xs i ∧ nth xs i ≤ 13) := hid (fun i hi => by have := hx i hi; omega)
  obtain ⟨⟨ys, ok⟩, hr⟩ : ∃ r, nextP xs n = r := ⟨_, rfl⟩
  have HR := hid hr
  clear hr hx
  go_enter Tryz.func67, Tryz.ntmps67
  go_wp2_with fail
  refine (indices_any n _ (by omega)).mono ?_
  rintro e w1 ⟨a1, cap1, rfl, hown1, hb1⟩
  go_wp2_with fail
  refine (nextU_any _ _ _ _ _ _ _ _ (h.below hb1 (Nat.le_refl _)) hown1.has h8 HX.out).mono ?_
  rw [HE.out, HR.out]
  rintro e w2 ⟨a2, m2, cap2, rfl, hown2, hb2⟩
  go_wp2_with fail
  go_ret2
  exact postInts HR.out (hown2.mono hb1.size) (hb1.trans (hb2.mono hb1.size))

theorem parks_small {xs : List Int} {n : Nat} (h : isPark xs = true) (hn : xs.length = n) : n ≤ 8 ∧ ∀ i, i < n → 0 ≤ nth xs i ∧ nth xs i ≤ 8 := by
  obtain ⟨h1, h2⟩ := isPark_bounds h
  refine ⟨by omega, fun i hi => ?_⟩
  have := h2 _ (nth_mem (xs := xs) (i := i) (by omega))
  omega
theorem nextOf_none {xs : List Int} (h : ¬ isPark xs = true) : nextOf xs = ([], false) := by simp [nextOf, h]

end Go.Proofs.YtnddplldkgphnaaGreat

namespace Go.Proofs.YtnddplldkgphnaaGreat
open Go.RowKit

/-- How many favourites there are up to a place. -/
def upB (xs : List Int) (P : Nat) : Nat := below xs ((P : Int) + 1)
theorem upB_le (xs : List Int) (P : Nat) : upB xs P ≤ xs.length := below_le _ _
theorem N_upB (xs : List Int) (n : Nat) : N xs n = V (upB xs) n (n - xs.length) := rfl
/-- Those that are asked for at a place, among the first. -/
theorem count_at {xs : List Int} {P k : Nat} (h : k < xs.length) : (below (xs.take (k + 1)) ((P : Int) + 1) : Int) - below (xs.take (k + 1)) P = (below (xs.take k) ((P : Int) + 1) : Int) - below (xs.take k) P + if nth xs k = P then 1 else 0 := by
  rw [below_succ h, below_succ h]
  split <;> split <;> split <;> omega
theorem below_mono (xs : List Int) (P : Int) : below xs P ≤ below xs (P + 1) := by
  unfold below
  exact List.countP_mono_left fun x _ h => by simp at *; omega

end Go.Proofs.YtnddplldkgphnaaGreat

namespace Go.Proofs.YtnddplldkgphnaaGreat
open Go.RowKit

/-- The rank of the first k numbers. -/
def rkTo (xs : List Int) (n k : Nat) : Nat := rk n [] (toN (xs.take k))
/-- What the first j choices of the next number add. -/
def rkAt (xs : List Int) (n k j : Nat) : Nat := sumTo (fun y => N (xs.take k ++ [(y : Int)]) n) j
/-- What the first j choices behind p are. -/
def rkAtP (p : List Int) (n j : Nat) : Nat := sumTo (fun y => N (p ++ [(y : Int)]) n) j
theorem rkAtP_succ (p : List Int) (n j : Nat) : rkAtP p n (j + 1) = rkAtP p n j + N (p ++ [(j : Int)]) n := rfl
theorem rkTo_zero (xs : List Int) (n : Nat) : rkTo xs n 0 = 0 := rfl
theorem rkTo_succ {xs : List Int} {n k x : Nat} (h0 : ∀ y ∈ xs, 0 ≤ y) (hk : k < xs.length) (hx : nth xs k = (x : Int)) : rkTo xs n (k + 1) = rkTo xs n k + rkAt xs n k x := by
  unfold rkTo rkAt
  rw [take_succ_nth hk, hx]
  have e : toN (xs.take k ++ [(x : Int)]) = toN (xs.take k) ++ [x] := by simp [toN]
  rw [e, rk_append, toI_toN fun y hy => h0 y (List.mem_of_mem_take hy)]
  simp [rk]
theorem rkAt_succ (xs : List Int) (n k j : Nat) : rkAt xs n k (j + 1) = rkAt xs n k j + N (xs.take k ++ [(j : Int)]) n := rfl
theorem rkAt_le {xs : List Int} {n k : Nat} (hn : n ≤ 8) : ∀ j, j ≤ 8 → rkAt xs n k j ≤ j * 16777216
  | 0, _ => by simp [rkAt, sumTo]
  | j + 1, h => by
    have := rkAt_le (xs := xs) (n := n) (k := k) hn j (by omega)
    have := N_le (p := xs.take k ++ [(j : Int)]) hn
    rw [rkAt_succ]
    omega
theorem rkTo_le {xs : List Int} {n : Nat} (hn : n ≤ 8) (h0 : ∀ y ∈ xs, 0 ≤ y ∧ y ≤ 8) : ∀ k, k ≤ xs.length → rkTo xs n k ≤ k * 134217728
  | 0, _ => by simp [rkTo, toN, rk]
  | k + 1, h => by
    have ih := rkTo_le hn h0 k (by omega)
    have hx := h0 _ (nth_mem (xs := xs) (i := k) (by omega))
    rw [rkTo_succ (x := (nth xs k).toNat) (fun y hy => (h0 y hy).1) (by omega) (by omega)]
    have := rkAt_le (xs := xs) (k := k) hn (nth xs k).toNat (by omega)
    omega
theorem rankOf_yes {xs : List Int} (h : isPark xs = true) : rankOf xs = ((rkTo xs xs.length xs.length : Int), true) := by
  simp [rankOf, h, rkTo]
theorem rankOf_no {xs : List Int} (h : ¬ isPark xs = true) : rankOf xs = (0, false) := by simp [rankOf, h]
theorem parks_nth {xs : List Int} {n : Nat} (h : isPark xs = true) (hn : xs.length = n) : n ≤ 8 ∧ (∀ i, i < n → 0 ≤ nth xs i ∧ nth xs i ≤ 7 ∧ nth xs i < n) ∧ (∀ x ∈ xs, 0 ≤ x ∧ x ≤ 8) := by
  obtain ⟨h1, h2⟩ := isPark_bounds h
  refine ⟨by omega, fun i hi => ?_, fun x hx => by have := h2 x hx; omega⟩
  have := h2 _ (nth_mem (xs := xs) (i := i) (by omega))
  omega
theorem rk_lt_cnt {xs : List Int} (h : isPark xs = true) : rk xs.length [] (toN xs) < cnt xs.length := by
  obtain ⟨h1, h2⟩ := isPark_bounds h
  have h3 := (isPark_zpark h1 fun x hx => (h2 x hx).1).1 h
  have e := toI_toN (xs := xs) fun x hx => (h2 x hx).1
  have := rk_lt (n := xs.length) (toN xs) [] (by simp [length_toN]) (fun x hx => by
    obtain ⟨y, hy, rfl⟩ := List.mem_map.1 hx
    have := h2 y hy
    omega) (by rw [e]; simpa using h3)
  rw [N_nil h1] at this
  exact this
theorem rkTo_all {xs : List Int} {n : Nat} (h : xs.length = n) : rkTo xs n n = rk n [] (toN xs) := by
  unfold rkTo
  rw [List.take_of_length_le (by omega)]
end Go.Proofs.YtnddplldkgphnaaGreat

namespace Go.Proofs.YtnddplldkgphnaaGreat
open Go.RowKit

/-- A list and one number more. -/
theorem nth_snoc_nonneg {ys : List Int} {k j : Nat} (hl : ys.length = k) (h : ∀ i, i < k → 0 ≤ nth ys i) : ∀ i, i < k + 1 → 0 ≤ nth (ys ++ [(j : Int)]) i := by
  intro i hi
  by_cases e : i < k
  · rw [nth_append_left (by omega)]; exact h i e
  · obtain rfl : i = ys.length := by omega
    rw [nth_append_at]; omega

end Go.Proofs.YtnddplldkgphnaaGreat

namespace Go.Proofs.YtnddplldkgphnaaGreat
open Go.RowKit

/-- What is left to choose behind p, at r. -/
def AtLeft (n R : Nat) (p : List Int) (k r : Nat) : Prop := r < N p n ∧ toI (atL n n [] R) = p ++ toI (atL n (n - k) p r)
theorem atLeft_first {n R : Nat} (hn : n ≤ 8) (hR : R < cnt n) : AtLeft n R [] 0 R := ⟨by rw [N_nil hn]; exact hR, by simp⟩
theorem atLeft_step {n R k r x ρ : Nat} {p : List Int} (h : AtLeft n R p k r) (hk : k < n) (hp : p.length = k) (h1 : r = rkAtP p n x + ρ) (h2 : ρ < N (p ++ [(x : Int)]) n) : AtLeft n R (p ++ [(x : Int)]) (k + 1) ρ := by
  refine ⟨h2, ?_⟩
  rw [h.2, show n - k = (n - (k + 1)) + 1 by omega, at_step ⟨h1, h2⟩ (by omega) h.1, snoc_toI]
theorem atLeft_room {n R k r y ρ : Nat} {p : List Int} (h : AtLeft n R p k r) (hk : k < n) (hp : p.length = k) (h1 : r = rkAtP p n y + ρ) : y < n := by
  have h2 := h.1
  rw [N_split (by omega)] at h2
  apply Classical.byContradiction
  intro hn
  have := sumTo_mono (fun y => N (p ++ [(y : Int)]) n) (show n ≤ y by omega)
  unfold rkAtP at h1
  omega

theorem atOf_yes {n R : Nat} (hn : n ≤ 8) (hR : R < cnt n) : atOf n R = (toI (atL n n [] R), true) := by
  have h1 : inB (n : Int) 0 8 = true := inB_iff.2 ⟨by omega, by omega⟩
  have h2 : inB (R : Int) 0 ((cnt n : Int) - 1) = true := inB_iff.2 ⟨by omega, by omega⟩
  simp only [atOf, Int.toNat_natCast, h1, h2, Bool.and_true, if_true]
theorem atOf_no1 {n r : Int} (h : ¬ inB n 0 8 = true) : atOf n r = ([], false) := by simp [atOf, h]
theorem atOf_no2 {n : Nat} {r : Int} (h : ¬ inB r 0 ((cnt n : Int) - 1) = true) : atOf n r = ([], false) := by simp [atOf, h]

theorem nextOf_yes {xs : List Int} {n : Nat} (h : isPark xs = true) (hn : xs.length = n) : nextOf xs = atOf n ((rkTo xs n n : Int) + 1) := by
  rw [rkTo_all hn]
  subst hn
  simp [nextOf, h]
theorem nextOf_no {xs : List Int} (h : ¬ isPark xs = true) : nextOf xs = ([], false) := by simp [nextOf, h]

/-- One number, written out. -/
theorem has_lit1 (w : World) (y : Int) : Has (w.alloc (.cells #[.int .i64 y] 3)) (some ⟨w.heap.size, 0, none⟩) 1 1 [y] := by
  refine ⟨rfl, Nat.le_refl _, by unfold maxLen; omega, by omega, fun _ => ⟨_, _, rfl, by simp, fun i hi => ?_⟩⟩
  obtain rfl : i = 0 := by omega
  rw [World.cell?_alloc_at _ _ _ _ rfl]
  rfl
theorem one_nonneg (k : Nat) : ∀ i, i < 1 → 0 ≤ nth [(k : Int)] i := fun i hi => by
  obtain rfl : i = 0 := by omega
  simp [nth]
/-- How many begin with each of the first k numbers. -/
def firsts (n k : Nat) : List Int := (List.range k).map fun (x : Nat) => (N [(x : Int)] n : Int)
theorem firsts_succ (n k : Nat) : firsts n (k + 1) = firsts n k ++ [(N [(k : Int)] n : Int)] := by simp [firsts, List.range_succ]
theorem firstOf_yes {n : Nat} (h : inB (n : Int) 1 8 = true) : firstOf n = (firsts n n, true) := by simp [firstOf, h, firsts]
theorem firstOf_no {n : Int} (h : ¬ inB n 1 8 = true) : firstOf n = ([], false) := by simp [firstOf, h]

end Go.Proofs.YtnddplldkgphnaaGreat

namespace Go.Proofs.YtnddplldkgphnaaGreat
open Go.RowKit

/-- Those that go on a beginning with the first c choices of the next number. -/
def listTo (n k : Nat) (p : List Int) (c : Nat) : List (List Int) := (List.range c).flatMap fun (x : Nat) => listL n k (p ++ [(x : Int)])
theorem listTo_succ (n k : Nat) (p : List Int) (c : Nat) : listTo n k p (c + 1) = listTo n k p c ++ listL n k (p ++ [(c : Int)]) := by simp [listTo, List.range_succ]
theorem length_listL {n k : Nat} {p : List Int} (h : p.length + k = n) : (listL n k p).length = N p n := by rw [list_at k p h]; simp
theorem length_listTo {n k : Nat} {p : List Int} (h : p.length + (k + 1) = n) : ∀ c, (listTo n k p c).length = rkAtP p n c
  | 0 => rfl
  | c + 1 => by rw [listTo_succ, List.length_append, length_listTo h c, length_listL (by simp; omega), rkAtP_succ]
theorem N_le5 {p : List Int} {n : Nat} (h : n ≤ 5) : N p n ≤ 3125 := by
  unfold N
  refine Nat.le_trans (V_le _ n (by omega) _ (by omega)) ?_
  refine Nat.le_trans (Nat.pow_le_pow_left h _) ?_
  exact Nat.le_trans (Nat.pow_le_pow_right (by omega) (show n - p.length ≤ 5 by omega)) (by decide)
theorem rkAtP_le5 {p : List Int} {n : Nat} (hn : n ≤ 5) : ∀ j, j ≤ 5 → rkAtP p n j ≤ j * 3125
  | 0, _ => by simp [rkAtP, sumTo]
  | j + 1, h => by
    have := rkAtP_le5 (p := p) (n := n) hn j (by omega)
    have := N_le5 (p := p ++ [(j : Int)]) hn
    rw [rkAtP_succ]
    omega

set_option maxHeartbeats 4000000 in
theorem cnAll_any (n : Nat) (h5 : n ≤ 5) : ∀ (k m : Nat) (a : Option Addr) (cap : Nat) (p : List Int) (w : World), m + k = n → Has w a m cap p → Hid (∀ i, i < m → 0 ≤ nth p i) →
    Calls Tryz.prog 45 #[.slice a m cap, .int .i64 (n : Int)] w (PostRowsOnly w (listL n k p)) := by
  intro k
  induction k with
  | zero =>
    intro m a cap p w hmk h H0
    obtain rfl : m = n := by omega
    have hlen := h.len
    have hz : isPark p = true ↔ zpark p m := by
      have := isPark_zpark (xs := p) (by omega) (fun x hx => by
        obtain ⟨i, hi, rfl⟩ := mem_nth hx
        exact H0.out i (by omega))
      rw [hlen] at this
      exact this
    have hbe : ((m : Int) == (m : Int)) = true := by simp
    by_cases hp : isPark p = true
    · have HR : Hid (listL m 0 p = [p]) := hid (by simp only [listL]; rw [if_pos (hz.1 hp)])
      have HP := hid hp
      clear hz hp hlen
      go_enter Tryz.func45, Tryz.ntmps45
      go_wp2_with (go_at_call 26; refine (paParking_any _ _ _ _ _ h).mono ?_; rintro e w0 ⟨rfl, hb0⟩; rw [HP.out])
      refine (l1Own_any _ _ _ _ _ (h.below hb0 (Nat.le_refl _))).mono ?_
      rintro e w1 ⟨a1, cap1, rfl, hown1, hb1⟩
      have hown1' := hown1.mono hb0.size
      have hb01 := hb0.trans (hb1.mono hb0.size)
      have hlit := ownR_lit1 hown1' hb01.size
      have hba := hb01.alloc hb01.size (.cells #[.slice a1 m cap1] 24)
      go_wp2_with fail
      go_ret
      exact ⟨_, _, _, _, rfl, hlit, by rw [HR.out]; rfl, hba⟩
    · have HR : Hid (listL m 0 p = []) := hid (by simp only [listL]; rw [if_neg (fun h => hp (hz.2 h))])
      have HP := hid hp
      clear hz hp hlen
      go_enter Tryz.func45, Tryz.ntmps45
      go_wp2_with (go_at_call 26; refine (paParking_any _ _ _ _ _ h).mono ?_; rintro e w0 ⟨rfl, hb0⟩; rw [Bool.eq_false_iff.2 HP.out])
      go_ret
      exact ⟨_, _, _, _, rfl, OwnR.nil _ _, by rw [HR.out]; rfl, hb0⟩
  | succ k ih =>
    intro m a cap p w hmk h H0
    have IH := hid ih
    have hbe : ((m : Int) == (n : Int)) = false := by simp; omega
    have HLEN := hid h.len
    have HL := hid (fun c => length_listTo (n := n) (k := k) (p := p) (by rw [HLEN.out]; omega) c)
    have HR : Hid (listL n (k + 1) p = listTo n k p n) := hid rfl
    clear ih
    go_enter Tryz.func45, Tryz.ntmps45
    go_wp2_with fail
    go_loopw [5, 6] (fun o x wr => ∃ (c : Nat) (a' : Option Addr) (q cap' : Nat) (rs : List Rw), c ≤ n ∧ x = .int .i64 (c : Int) ∧ o = .slice a' q cap' ∧ OwnR wr w.heap.size a' q cap' rs ∧ Hid (numsOf rs = listTo n k p c) ∧ Below w.heap.size w wr) (fun _ x _ => n - (intOf x).toNat)
    case atStart => exact ⟨0, none, 0, 0, [], Nat.zero_le _, rfl, rfl, OwnR.nil _ _, hid rfl, Below.refl _ _⟩
    case round =>
      obtain ⟨c, a', q, cap', rs, hc, rfl, rfl, hown, HNU, hb⟩ := hrel
      by_cases hlt : c < n
      · have hq : q ≤ 15625 := by
          have h1 := numsOf_len hown
          rw [HNU.out, HL.out] at h1
          have := rkAtP_le5 (p := p) h5 c (by omega)
          omega
        have hh := h.below hb (Nat.le_refl _)
        have hszr := hb.size
        have HNN := hid (nth_snoc_nonneg (j := c) HLEN.out H0.out)
        go_wp2_with fail
        refine (l1Own_any _ _ _ _ _ hh).mono ?_
        rintro e w3 ⟨a3, cap3, rfl, hown3, hb3⟩
        go_wp2_with (at_builtin; refine wpList_append_int _ rfl _ _ rfl wr.heap.size _ _ _ _ _ rfl rfl hown3 (by omega) hb3.size ?_; intro a4 cap4 w4 hown4 hb4)
        have hb34 := hb3.trans hb4
        refine (IH.out (m + 1) _ _ _ _ (by omega) hown4.has HNN).mono ?_
        rintro e w5 ⟨a5, q5, cap5, rs5, rfl, hown5, hn5, hb5⟩
        have hb35 := hb34.trans (hb5.mono hb34.size)
        have HN5 := hid hn5
        have hq5 : q5 ≤ 3125 := by
          have h1 := numsOf_len hown5
          rw [hn5, length_listL (by simp [HLEN.out]; omega)] at h1
          have := N_le5 (p := p ++ [(c : Int)]) h5
          omega
        have hown5' := hown5.mono hb34.size
        clear hn5 hown3 hown4 hb3 hb4 hb5 hb34 hown5
        go_wp2_with (at_builtin; refine wpList_append_rowsAny wr w5 rfl _ _ rfl w.heap.size _ _ _ _ _ _ _ _ rfl rfl hown hb35 hown5' (by omega) hszr ?_; intro a6 q6 cap6 w6 hq6 hown6 hb6)
        go_roundw
        case rel =>
          refine ⟨c + 1, a6, q6, cap6, _, by omega, by go_num, rfl, hown6, hid ?_, (hb.trans (hb35.mono hszr)).trans hb6⟩
          rw [numsOf_app, HNU.out, HN5.out, listTo_succ]
        case measure => simp [intOf]; omega
      · obtain rfl : n = c := by omega
        go_wp2_with fail
        go_ret
        exact ⟨a', q, cap', rs, rfl, hown, by rw [HR.out, HNU.out], hb⟩

theorem allOf_yes {n : Nat} (h : inB (n : Int) 0 5 = true) : allOf n = (listL n n [], true) := by simp [allOf, h]
theorem allOf_no {n : Int} (h : ¬ inB n 0 5 = true) : allOf n = ([], false) := by simp [allOf, h]

/-- The least choice behind a beginning. -/
def lastOf (p : List Int) : Int := nth p (p.length - 1)
/-- Those that do not fall and go on a beginning with the first c choices. -/
def sortTo (k : Nat) (p : List Int) (c : Nat) : List (List Int) := (upFrom (lastOf p) c).flatMap fun x => sortL k (p ++ [x])
theorem sortTo_succ (k : Nat) (p : List Int) (c : Nat) : sortTo k p (c + 1) = sortTo k p c ++ sortL k (p ++ [lastOf p + c]) := by
  simp [sortTo, upFrom_snoc]
theorem lastOf_snoc (p : List Int) (x : Int) : lastOf (p ++ [x]) = x := by
  unfold lastOf
  rw [List.length_append, List.length_singleton, Nat.add_sub_cancel, nth_append_at]
theorem length_sortL : ∀ (k : Nat) (p : List Int), p.length + k ≤ 6 → 0 ≤ lastOf p → (sortL k p).length ≤ 7 ^ k ∧ ∀ j c, k = j + 1 → c ≤ 7 → (sortTo j p c).length ≤ c * 7 ^ j
  | 0, p, _, _ => ⟨by simp [sortL], fun j c h => by omega⟩
  | k + 1, p, h, h0 => by
    have hto : ∀ c, c ≤ 7 → (sortTo k p c).length ≤ c * 7 ^ k := by
      intro c
      induction c with
      | zero => intro _; simp [sortTo, upFrom]
      | succ c ih =>
        intro hc
        have h1 := ih (by omega)
        have h2 := (length_sortL k (p ++ [lastOf p + c]) (by simp; omega) (by rw [lastOf_snoc]; omega)).1
        rw [sortTo_succ, List.length_append, Nat.add_mul]
        omega
    refine ⟨?_, fun j c hj hc => by cases hj; exact hto c hc⟩
    have h1 := hto ((p.length : Int) + 1 - lastOf p).toNat (by omega)
    have h2 := Nat.mul_le_mul_right (7 ^ k) (show ((p.length : Int) + 1 - lastOf p).toNat ≤ 7 by omega)
    show (sortTo k p ((p.length : Int) + 1 - lastOf p).toNat).length ≤ 7 ^ (k + 1)
    rw [Nat.pow_succ]
    omega
theorem pow7 : ∀ k, k < 7 → 7 ^ k ≤ 117649 := by decide +kernel
theorem nth_last_le {p : List Int} {m : Nat} (h : p.length = m) : lastOf p = nth p (m - 1) := by unfold lastOf; rw [h]
theorem lastOf_none {p : List Int} (h : p.length = 0) : lastOf p = 0 := by
  have : p = [] := List.eq_nil_of_length_eq_zero h
  subst this
  rfl

theorem allSortedOf_yes' {n : Nat} (h : inB (n : Int) 0 6 = true) : allSortedOf n = (sortL n [], true) := by simp [allSortedOf, h]
theorem allSortedOf_no' {n : Int} (h : ¬ inB n 0 6 = true) : allSortedOf n = ([], false) := by simp [allSortedOf, h]

end Go.Proofs.YtnddplldkgphnaaGreat

namespace Go.Proofs.YtnddplldkgphnaaGreat
open Go.RowKit

set_option maxHeartbeats 4000000 in
theorem allNext_any (n : Nat) (L : List (List Int)) (hch : Chain (fun xs => nextP xs xs.length) L) (h8 : n ≤ 8) (hq : L.length ≤ 100000) (hv : ∀ k, k < L.length → (L.getD k []).length = n ∧ ∀ i, i < n → 0 ≤ nth (L.getD k []) i ∧ nth (L.getD k []) i ≤ 8)
    (w0 w : World) (a : Option Addr) (m cap : Nat) (xs : List Int) (hb0 : Below w0.heap.size w0 w) (hfirst : Own w w0.heap.size a m cap xs) (hx : L.getD 0 [] = xs) :
    Calls Tryz.prog 66 #[.slice a m cap, .func (.func 67) #[] #[]] w (PostRowsOnly w0 L) := by
  obtain ⟨hL0, hL1, hL2⟩ := hch
  have H1 := hid hL1
  have H2 := hid hL2
  have HV := hid hv
  have HX := hid hx
  clear hL1 hL2 hv hx
  go_enter Tryz.func66, Tryz.ntmps66
  go_wp2_with fail
  go_loopw [5, 6, 7] (fun o s b wr => ∃ (k : Nat) (wk : World) (a' : Option Addr) (cap' : Nat) (rs : List Rw) (a1 : Option Addr) (m1 c1 : Nat) (ys : List Int) (ok : Bool), k ≤ L.length ∧ o = .slice a' k cap' ∧ s = .slice a1 m1 c1 ∧ b = .bool ok ∧ Hid (ok = decide (k < L.length)) ∧
    OwnR wk w0.heap.size a' k cap' rs ∧ Hid (numsOf rs = L.take k) ∧ Below wk.heap.size wk wr ∧ w0.heap.size ≤ wk.heap.size ∧ Own wr wk.heap.size a1 m1 c1 ys ∧ Hid (k < L.length → L.getD k [] = ys) ∧ Below w0.heap.size w0 wr) (fun o _ _ _ => L.length + 1 - (match o with | .slice _ k _ => k | _ => 0))
  case atStart => exact ⟨0, w0, none, 0, [], a, m, cap, xs, true, Nat.zero_le _, rfl, rfl, rfl, hid (by simp [hL0]), OwnR.nil _ _, hid rfl, hb0, Nat.le_refl _, hfirst, hid (fun _ => HX.out), hb0⟩
  case round =>
    clear hb0 hfirst
    obtain ⟨k, wk, a', cap', rs, a1, m1, c1, ys, ok, hk, rfl, rfl, rfl, HOK, hrows, HR, hbk, hwk, hys, HY, hb⟩ := hrel
    by_cases hlt : k < L.length
    · obtain rfl : ok = true := by rw [HOK.out]; simp [hlt]
      obtain ⟨v1, v2⟩ := HV.out k hlt
      have hyl := HY.out hlt
      rw [hyl] at v1 v2
      obtain rfl : n = m1 := by rw [← v1]; exact hys.len
      have V2 := hid v2
      have V1 := hid v1
      have HYL := hid hyl
      have HT := hid (take_getD hlt)
      have HR' : Hid (numsOf rs ++ [ys] = L.take (k + 1)) := hid (by rw [HT.out, HR.out, HYL.out])
      have hlen := hrows.len
      have HLEN := hid hlen
      clear v1 v2 hyl hlen
      go_wp2_with (at_builtin; refine wpList_append_row wk wr rfl _ _ rfl w0.heap.size _ _ _ _ _ _ _ _ rfl rfl hrows hbk hys (by omega) hwk ?_; intro a2 cap2 w2 hrows2 hb2)
      have hrow : Has w2 a1 n c1 ys := by
        have := hrows2.has.2.2.2.2.2 k (by omega)
        rw [nthR_append_right (by rw [HLEN.out]; exact Nat.le_refl _), HLEN.out, Nat.sub_self, nthR_one] at this
        simpa [V1.out] using this
      refine (pnext_any _ _ _ _ _ hrow h8 V2.out).mono ?_
      have hw2 : w0.heap.size ≤ w2.heap.size := Nat.le_trans (Nat.le_trans hwk hbk.size) hb2.size
      have hbw := hb.trans hb2
      by_cases hk1 : k + 1 < L.length
      · have HF := H1.out k hk1
        rw [HYL.out] at HF
        simp only [V1.out] at HF
        rw [HF]
        rintro e w3 ⟨a3, m3, cap3, rfl, hown3, hb3⟩
        clear HF
        go_wp2_with fail
        go_roundw
        case rel => exact ⟨k + 1, w2, a2, cap2, _, a3, m3, cap3, _, true, by omega, rfl, rfl, rfl, hid (by simp [hk1]), hrows2, hid (by rw [← HR'.out]; simp [numsOf]), hb3, hw2, hown3, hid (fun _ => rfl), hbw.trans (hb3.mono hw2)⟩
        case measure => simp; omega
      · have HF := H2.out
        rw [show L.length - 1 = k by omega, HYL.out] at HF
        simp only [V1.out] at HF
        rw [HF]
        rintro e w3 ⟨a3, m3, cap3, rfl, hown3, hb3⟩
        clear HF
        go_wp2_with fail
        go_roundw
        case rel => exact ⟨k + 1, w2, a2, cap2, _, a3, m3, cap3, _, false, by omega, rfl, rfl, rfl, hid (by simp [hk1]), hrows2, hid (by rw [← HR'.out]; simp [numsOf]), hb3, hw2, hown3, hid (fun h => absurd h hk1), hbw.trans (hb3.mono hw2)⟩
        case measure => simp; omega
    · obtain rfl : ok = false := by rw [HOK.out]; simp [hlt]
      have HE : Hid (numsOf rs = L) := hid (by rw [HR.out, List.take_of_length_le (by omega)])
      go_wp2_with fail
      go_ret
      exact ⟨a', k, cap', rs, rfl, hrows.below hbk (Nat.le_refl _), HE.out, hb⟩

theorem chain_next {n : Nat} (h8 : n ≤ 8) : Chain (fun xs => nextP xs xs.length) (listL n n []) := by
  obtain ⟨⟨c1, c2, c3⟩, _, _, hp⟩ := all_chain h8
  refine ⟨c1, fun k hk => ?_, ?_⟩
  · show nextP _ _ = _
    rw [nextP_eq (hp k (by omega)).1]
    exact c2 k hk
  · show nextP _ _ = _
    rw [nextP_eq (hp _ (by omega)).1]
    exact c3
theorem cnt_le5 {n : Nat} (h : n ≤ 5) : cnt n ≤ 1296 := by
  have : ∀ n, n < 6 → cnt n ≤ 1296 := by decide +kernel
  exact this n (by omega)

set_option maxHeartbeats 400000 in
theorem allParking_any (n : Int) (w : World) : Calls Tryz.prog 44 #[.int .i64 n] w (PostRows w (allOf n)) := by
  by_cases h1 : 0 ≤ n
  · by_cases h2 : n ≤ 5
    · obtain ⟨m, rfl⟩ : ∃ m : Nat, n = (m : Int) := ⟨n.toNat, by omega⟩
      have hm : m ≤ 5 := by omega
      have HA := hid (allOf_yes (inB_iff.2 ⟨h1, h2⟩))
      obtain ⟨_, hf, hl, hp⟩ := all_chain (n := m) (by omega)
      have hc5 := cnt_le5 hm
      have HF := hid hf
      have HC := hid (chain_next (n := m) (by omega))
      have HV : Hid (∀ k, k < (listL m m []).length → ((listL m m []).getD k []).length = m ∧ ∀ i, i < m → 0 ≤ nth ((listL m m []).getD k []) i ∧ nth ((listL m m []).getD k []) i ≤ 8) := hid (fun k hk => ⟨(hp k hk).2, (parks_small (hp k hk).1 (hp k hk).2).2⟩)
      have HL : Hid ((listL m m []).length ≤ 100000) := hid (by omega)
      clear hf hl hp
      go_enter Tryz.func44, Tryz.ntmps44
      go_wp2_with (refine wpList_make_intsT 78 Tryz.underlying78 _ rfl _ _ rfl m rfl rfl (by omega) ?_; intro a1 cap1 w1 hown1 hb1)
      refine (allNext_any m (listL m m []) HC.out (by omega) HL.out HV.out w _ _ _ _ _ hb1 hown1 HF.out).mono ?_
      rintro e w2 ⟨a2, q2, cap2, rs2, rfl, hown2, hn2, hb2⟩
      go_wp2_with fail
      go_ret2
      exact postRows HA.out hown2 hn2 hb2
    · have HA := hid (allOf_no (n := n) (by rw [Bool.not_eq_true, inB_not]; omega))
      go_enter Tryz.func44, Tryz.ntmps44
      go_wp2_with fail
      go_ret2
      exact postRows_no HA.out (Below.refl _ _)
  · have HA := hid (allOf_no (n := n) (by rw [Bool.not_eq_true, inB_not]; omega))
    go_enter Tryz.func44, Tryz.ntmps44
    go_wp2_with fail
    go_ret2
    exact postRows_no HA.out (Below.refl _ _)

theorem allSortedOf_yes {n : Nat} (h : inB (n : Int) 0 6 = true) : allSortedOf n = (sortL n [], true) := by simp [allSortedOf, h]
theorem allSortedOf_no {n : Int} (h : ¬ inB n 0 6 = true) : allSortedOf n = ([], false) := by simp [allSortedOf, h]
theorem sorted_facts {n : Nat} (h : n ≤ 6) : Chain (fun xs => nextS xs xs.length) (sortL n []) ∧ (sortL n []).getD 0 [] = List.replicate n 0 ∧ (sortL n []).length ≤ 132 ∧
    ∀ k, k < (sortL n []).length → ((sortL n []).getD k []).length = n ∧ ∀ i, i < n → 0 ≤ nth ((sortL n []).getD k []) i ∧ nth ((sortL n []).getD k []) i ≤ 8 := by
  obtain ⟨c1, c2, c3, c4⟩ := sorted_chain n (by omega)
  refine ⟨chain_of c1, c2, c3, fun k hk => ?_⟩
  have hm : (sortL n []).getD k [] ∈ sortL n [] := by simp [hk]
  have := List.all_eq_true.1 c4 _ hm
  simp only [Bool.and_eq_true, decide_eq_true_eq] at this
  refine ⟨this.1, fun i hi => ?_⟩
  have := allB_nth this.2 (k := i) (by omega)
  omega

end Go.Proofs.YtnddplldkgphnaaGreat

namespace Go.Proofs.YtnddplldkgphnaaGreat
open Go.RowKit

def countUnitOf (n m : Int) : Int × Bool := if inB n 0 5 && inB m 0 8 then (((listL n.toNat n.toNat []).countP (fun xs => unitB xs m) : Nat), true) else (0, false)
theorem cntU_yes {n : Nat} {m : Int} (h : inB (n : Int) 0 5 = true) (hm : inB m 0 8 = true) : countUnitOf n m = ((((listL n n []).countP (fun xs => unitB xs m) : Nat) : Int), true) := by simp [countUnitOf, h, hm]
theorem cntU_no {n m : Int} (h : ¬ (inB n 0 5 = true ∧ inB m 0 8 = true)) : countUnitOf n m = (0, false) := by
  unfold countUnitOf
  rw [if_neg (by simpa using h)]
theorem cnt_take_yes {L : List (List Int)} {p : List Int → Bool} {k : Nat} (h : k < L.length) (hp : p (L.getD k []) = true) : (L.take (k + 1)).countP p = (L.take k).countP p + 1 := by
  rw [take_getD h, List.countP_append, List.countP_singleton, if_pos hp]
theorem cnt_take_no {L : List (List Int)} {p : List Int → Bool} {k : Nat} (h : k < L.length) (hp : p (L.getD k []) = false) : (L.take (k + 1)).countP p = (L.take k).countP p := by
  rw [take_getD h, List.countP_append, List.countP_singleton, if_neg (by rw [hp]; simp), Nat.add_zero]
theorem cnt_le_take (L : List (List Int)) (p : List Int → Bool) (k : Nat) : (L.take k).countP p ≤ k := Nat.le_trans List.countP_le_length (by simp; omega)

set_option maxHeartbeats 2000000 in
theorem specCntU_any (n m : Int) (w : World) : Calls Tryz.prog 18 #[.int .i64 n, .int .i64 m] w (PostInt w (countUnitOf n m)) := by
  by_cases hg : inB n 0 5 = true
  · have HG := hid hg
    by_cases hm : inB m 0 8 = true
    · obtain ⟨N, rfl⟩ : ∃ N : Nat, n = (N : Int) := ⟨n.toNat, by have := inB_iff.1 hg; omega⟩
      have hN : N ≤ 5 := by have := inB_iff.1 hg; omega
      have HA := hid (cntU_yes hg hm)
      have HM := hid hm
      have HPK := hid (all_chain (n := N) (by omega)).2.2.2
      clear hg hm
      go_enter Tryz.func18, Tryz.ntmps18
      go_wp2_with (first | (go_at_call 37; refine (l1In_any _ _ _ _).mono ?_; rintro e w' ⟨rfl, rfl⟩; rw [HG.out]) | (go_at_call 43; refine (cnCars_any _ _).mono ?_; rintro e w' ⟨rfl, rfl⟩; rw [HM.out]))
      refine (cnAll_any N hN N 0 none 0 [] _ (by omega) (Has.nilAt none (by unfold maxLen; omega)) (hid (fun i hi => by omega))).mono ?_
      rintro e w2 ⟨a2, q2, cap2, rs2, rfl, hown2, hn2, hb2⟩
      have hle2 := hown2.le
      have HN2 := hid hn2
      have HLEN := hid hown2.len
      have HLQ : Hid (q2 = (listL N N []).length) := hid (by rw [← hn2]; simp [numsOf, HLEN.out])
      have HO := hid hown2
      have hsz2 := hb2.size
      have HC := hown2.has
      clear hn2 hown2
      generalize listL N N [] = L at *
      go_wp2_with fail
      go_loopw [6, 20] (fun c i wr => ∃ (k v : Nat), k ≤ q2 ∧ v ≤ k ∧ i = .int .i64 (k : Int) ∧ c = .int .i64 (v : Int) ∧ Hid (v = (L.take k).countP (fun xs => unitB xs m)) ∧ Below w2.heap.size w2 wr) (fun _ i _ => q2 - (intOf i).toNat)
      case atStart => exact ⟨0, 0, Nat.zero_le _, Nat.le_refl _, rfl, rfl, hid rfl, Below.refl _ _⟩
      case round =>
        obtain ⟨k, v, hk, hv, rfl, rfl, HV, hb⟩ := hrel
        by_cases hlt : k < q2
        · have hkL : k < L.length := by rw [← HLQ.out]; exact hlt
          have HPA := hid (HPK.out k hkL).1
          have hrow := HO.out.row hlt
          have hrowr := hrow.has.below hb (Nat.le_refl _)
          have HXS : Hid ((nthR rs2 k).xs = L.getD k []) := hid (by rw [← HN2.out, numsOf_nth (by rw [HLEN.out]; exact hlt)])
          have FY := hid (fun h => cnt_take_yes (p := fun xs => unitB xs m) hkL h)
          have FN := hid (fun h => cnt_take_no (p := fun xs => unitB xs m) hkL h)
          obtain ⟨b2, off2, rfl, hbb2, hc2⟩ := HC.2.2.2.2.1 (by omega)
          have hck : wr.cell? ⟨b2, off2 + k, none⟩ = some (.slice (nthR rs2 k).a (nthR rs2 k).xs.length (nthR rs2 k).c) := by rw [hb.cell (p := ⟨b2, off2 + k, none⟩) hbb2]; exact hc2 k hlt
          have hbs := hb.size
          obtain ⟨a5, n5, c5, e1, e2, e3⟩ : ∃ a5 n5 c5, (nthR rs2 k).a = a5 ∧ (nthR rs2 k).xs.length = n5 ∧ (nthR rs2 k).c = c5 := ⟨_, _, _, rfl, rfl, rfl⟩
          rw [e1, e2, e3] at hck hrowr
          rw [HXS.out] at hrowr
          clear hc2 hrow e1 e2 e3
          generalize L.getD k [] = ys at *
          go_wp2_with fail
          refine (vaUnit_any _ _ _ _ _ _ hrowr HPA.out).mono ?_
          rintro e w5 ⟨rfl, hb5⟩
          by_cases hp : unitB ys m = true
          · have HF := hid (FY.out hp)
            rw [hp]
            clear hp FY FN
            go_wp2_with fail
            go_roundw
            case rel => exact ⟨k + 1, v + 1, by omega, by omega, by go_num, by go_num, hid (by rw [HF.out, HV.out]), hb.trans (hb5.mono hbs)⟩
            case measure => simp [intOf]; omega
          · have HF := hid (FN.out (Bool.eq_false_iff.2 hp))
            rw [Bool.eq_false_iff.2 hp]
            clear hp FY FN
            go_wp2_with fail
            go_roundw
            case rel => exact ⟨k + 1, v, by omega, by omega, by go_num, rfl, hid (by rw [HF.out, HV.out]), hb.trans (hb5.mono hbs)⟩
            case measure => simp [intOf]; omega
        · obtain rfl : k = q2 := by omega
          have HF : Hid (v = L.countP (fun xs => unitB xs m)) := hid (by rw [HV.out, List.take_of_length_le (by rw [← HLQ.out]; exact Nat.le_refl _)])
          go_wp2_with fail
          go_ret2
          exact postInt (by rw [HA.out, ← HF.out]) (hb2.trans (hb.mono hsz2))
    · have HA := hid (cntU_no (n := n) (m := m) (fun h => hm h.2))
      have HM := hid hm
      clear hg hm
      go_enter Tryz.func18, Tryz.ntmps18
      go_wp2_with (first | (go_at_call 37; refine (l1In_any _ _ _ _).mono ?_; rintro e w' ⟨rfl, rfl⟩; rw [HG.out]) | (go_at_call 43; refine (cnCars_any _ _).mono ?_; rintro e w' ⟨rfl, rfl⟩; rw [Bool.eq_false_iff.2 HM.out]))
      go_ret2
      exact postInt HA.out (Below.refl _ _)
  · have HA := hid (cntU_no (n := n) (m := m) (fun h => hg h.1))
    have HG := hid hg
    clear hg
    go_enter Tryz.func18, Tryz.ntmps18
    go_wp2_with (go_at_call 37; refine (l1In_any _ _ _ _).mono ?_; rintro e w' ⟨rfl, rfl⟩; rw [Bool.eq_false_iff.2 HG.out])
    go_ret2
    exact postInt HA.out (Below.refl _ _)
set_option maxHeartbeats 2000000 in
theorem implCntU_any (n m : Int) (w : World) : Calls Tryz.prog 17 #[.int .i64 n, .int .i64 m] w (PostInt w (countUnitOf n m)) := by
  by_cases hg : inB n 0 5 = true
  · obtain ⟨h0, h5⟩ := inB_iff.1 hg
    have h0' : ¬ n < 0 := by omega
    have h5' : ¬ (5 : Int) < n := by omega
    by_cases hm : inB m 0 8 = true
    · obtain ⟨N, rfl⟩ : ∃ N : Nat, n = (N : Int) := ⟨n.toNat, by omega⟩
      have HA := hid (cntU_yes hg hm)
      have HM := hid hm
      have hm0 : 0 ≤ m := (inB_iff.1 hm).1
      have HPK := hid (all_chain (n := N) (by omega)).2.2.2
      have HAL := hid (allOf_yes hg)
      clear hg hm
      go_enter Tryz.func17, Tryz.ntmps17
      go_wp2_with (go_at_call 29; refine (isMost_any _ _).mono ?_; rintro e w' ⟨rfl, rfl⟩; rw [HM.out])
      refine (allParking_any _ _).mono ?_
      rw [HAL.out]
      rintro e w2 ⟨a2, q2, cap2, rs2, rfl, hown2, hn2, hb2⟩
      replace hn2 : numsOf rs2 = listL N N [] := hn2
      have hle2 := hown2.le
      have HN2 := hid hn2
      have HLEN := hid hown2.len
      have HLQ : Hid (q2 = (listL N N []).length) := hid (by rw [← hn2]; simp [numsOf, HLEN.out])
      have HO := hid hown2
      have hsz2 := hb2.size
      have HC := hown2.has
      clear hn2 hown2 HAL
      generalize listL N N [] = L at *
      go_wp2_with fail
      go_loopw [8, 29] (fun c i wr => ∃ (k v : Nat), k ≤ q2 ∧ v ≤ k ∧ i = .int .i64 (k : Int) ∧ c = .int .i64 (v : Int) ∧ Hid (v = (L.take k).countP (fun xs => unitB xs m)) ∧ Below w2.heap.size w2 wr) (fun _ i _ => q2 - (intOf i).toNat)
      case atStart => exact ⟨0, 0, Nat.zero_le _, Nat.le_refl _, rfl, rfl, hid rfl, Below.refl _ _⟩
      case round =>
        obtain ⟨k, v, hk, hv, rfl, rfl, HV, hb⟩ := hrel
        by_cases hlt : k < q2
        · have hkL : k < L.length := by rw [← HLQ.out]; exact hlt
          have HPA := hid (HPK.out k hkL).1
          have hrow := HO.out.row hlt
          have hrowr := hrow.has.below hb (Nat.le_refl _)
          have HXS : Hid ((nthR rs2 k).xs = L.getD k []) := hid (by rw [← HN2.out, numsOf_nth (by rw [HLEN.out]; exact hlt)])
          have FY := hid (fun h => cnt_take_yes (p := fun xs => unitB xs m) hkL h)
          have FN := hid (fun h => cnt_take_no (p := fun xs => unitB xs m) hkL h)
          obtain ⟨b2, off2, rfl, hbb2, hc2⟩ := HC.2.2.2.2.1 (by omega)
          have hck : wr.cell? ⟨b2, off2 + k, none⟩ = some (.slice (nthR rs2 k).a (nthR rs2 k).xs.length (nthR rs2 k).c) := by rw [hb.cell (p := ⟨b2, off2 + k, none⟩) hbb2]; exact hc2 k hlt
          have hbs := hb.size
          obtain ⟨a5, n5, c5, e1, e2, e3⟩ : ∃ a5 n5 c5, (nthR rs2 k).a = a5 ∧ (nthR rs2 k).xs.length = n5 ∧ (nthR rs2 k).c = c5 := ⟨_, _, _, rfl, rfl, rfl⟩
          rw [e1, e2, e3] at hck hrowr
          rw [HXS.out] at hrowr
          clear hc2 hrow e1 e2 e3
          generalize L.getD k [] = ys at *
          go_wp2_with fail
          refine (implUnitB_any _ _ _ _ _ _ hrowr HPA.out hm0).mono ?_
          rintro e w5 ⟨rfl, hb5⟩
          by_cases hp : unitB ys m = true
          · have HF := hid (FY.out hp)
            rw [hp]
            clear hp FY FN
            go_wp2_with fail
            go_roundw
            case rel => exact ⟨k + 1, v + 1, by omega, by omega, by go_num, by go_num, hid (by rw [HF.out, HV.out]), hb.trans (hb5.mono hbs)⟩
            case measure => simp [intOf]; omega
          · have HF := hid (FN.out (Bool.eq_false_iff.2 hp))
            rw [Bool.eq_false_iff.2 hp]
            clear hp FY FN
            go_wp2_with fail
            go_roundw
            case rel => exact ⟨k + 1, v, by omega, by omega, by go_num, rfl, hid (by rw [HF.out, HV.out]), hb.trans (hb5.mono hbs)⟩
            case measure => simp [intOf]; omega
        · obtain rfl : k = q2 := by omega
          have HF : Hid (v = L.countP (fun xs => unitB xs m)) := hid (by rw [HV.out, List.take_of_length_le (by rw [← HLQ.out]; exact Nat.le_refl _)])
          go_wp2_with fail
          go_ret2
          exact postInt (by rw [HA.out, ← HF.out]) (hb2.trans (hb.mono hsz2))
    · have HA := hid (cntU_no (n := n) (m := m) (fun h => hm h.2))
      have HM := hid hm
      clear hg hm
      go_enter Tryz.func17, Tryz.ntmps17
      go_wp2_with (go_at_call 29; refine (isMost_any _ _).mono ?_; rintro e w' ⟨rfl, rfl⟩; rw [Bool.eq_false_iff.2 HM.out])
      go_ret2
      exact postInt HA.out (Below.refl _ _)
  · have HA := hid (cntU_no (n := n) (m := m) (fun h => hg h.1))
    have hc := inB_not.1 (Bool.eq_false_iff.2 hg)
    clear hg
    by_cases h1 : n < 0
    · go_enter Tryz.func17, Tryz.ntmps17
      go_wp2_with fail
      go_ret2
      exact postInt HA.out (Below.refl _ _)
    · have h2 : (5 : Int) < n := by omega
      go_enter Tryz.func17, Tryz.ntmps17
      go_wp2_with fail
      go_ret2
      exact postInt HA.out (Below.refl _ _)
end Go.Proofs.YtnddplldkgphnaaGreat

namespace Go.Proofs.YtnddplldkgphnaaGreat
open Go.RowKit

theorem unit_more {xs : List Int} {m k : Int} (h : m ≤ k) (hu : unitB xs m = true) : unitB xs k = true := by
  unfold unitB at hu ⊢
  rw [allB_iff] at hu ⊢
  exact fun y hy => ⟨(hu y hy).1, Int.le_trans (hu y hy).2 h⟩
theorem unit_all {xs : List Int} {m : Int} (h : isPark xs = true) (hm : (xs.length : Int) - 1 ≤ m) : unitB xs m = true := by
  obtain ⟨_, hb, ha⟩ := isPark_iff.1 h
  unfold unitB
  rw [allB_iff]
  intro y hy
  have := dists_ge hb ha y hy
  exact ⟨this.1, by omega⟩
theorem list_cnt (n : Nat) (h : n < 6) : (listL n n []).length = cnt n := (all_chain (n := n) (by omega)).2.2.1
theorem list_park (n : Nat) (h : n < 6) : ∀ xs ∈ listL n n [], isPark xs = true ∧ xs.length = n := fun xs hx => by
  obtain ⟨k, hk, rfl⟩ := List.getElem_of_mem hx
  have := (all_chain (n := n) (by omega)).2.2.2 k hk
  rwa [List.getD_eq_getElem?_getD, List.getElem?_eq_getElem hk] at this
/-- What the law asks of the counts. -/
theorem count_facts {n k : Int} {c : Int} (h : countUnitOf n k = (c, true)) (hk : k < 8) : ∃ g t : Int, countUnitOf n (k + 1) = (g, true) ∧ countOf n = (t, true) ∧ c ≤ g ∧ g ≤ t ∧ (n - 1 ≤ k → c = t) := by
  unfold countUnitOf at h
  split at h
  · rename_i hc
    obtain ⟨h1, h2⟩ := Bool.and_eq_true_iff.1 hc
    have b1 := inB_iff.1 h1
    have b2 := inB_iff.1 h2
    have hk1 : inB (k + 1) 0 8 = true := inB_iff.2 ⟨by omega, by omega⟩
    have hn8 : inB n 0 8 = true := inB_iff.2 ⟨by omega, by omega⟩
    simp only [Prod.mk.injEq, and_true] at h
    have hl := list_cnt n.toNat (by omega)
    have hp := list_park n.toNat (by omega)
    refine ⟨_, _, by unfold countUnitOf; rw [h1, hk1]; rfl, by unfold countOf; rw [if_pos hn8], ?_, ?_, fun hnk => ?_⟩
    · rw [← h]
      exact Int.ofNat_le.2 (List.countP_mono_left fun xs _ hx => unit_more (by omega) hx)
    · rw [← hl]
      exact Int.ofNat_le.2 List.countP_le_length
    · rw [← h, ← hl]
      congr 1
      rw [List.countP_eq_length]
      intro xs hx
      have := hp xs hx
      exact unit_all this.1 (by omega)
  · simp at h
end Go.Proofs.YtnddplldkgphnaaGreat

namespace Go.Proofs.YtnddplldkgphnaaGreat
open Go.RowKit

set_option maxRecDepth 100000 in
set_option maxHeartbeats 1600000 in
theorem grow_any (n : Nat) (hn : n ≤ 1000) (w : World) : Calls Tryz.prog 76 #[.slice none 0 0, .int .i64 (n : Int)] w fun e w' => ∃ a' cap', e = .returned (.slice a' 0 cap') ∧ Own w' w.heap.size a' 0 cap' [] ∧ Below w.heap.size w w' := by
  obtain ⟨i0, hi, hz0, hz1, hz2⟩ := info_parts Tryz.infoInt
  by_cases h0 : n = 0
  · subst h0
    go_enter Tryz.func76, Tryz.ntmps76
    go_wp2_with fail
    go_ret
    exact ⟨none, 0, rfl, Own.nil _ _, Below.refl _ _⟩
  · have hp : (0 : Int) < (n : Int) := by omega
    have hwn : wrap64 ((n : Int) - 0) = (n : Int) := by unfold wrap64; omega
    go_enter Tryz.func76, Tryz.ntmps76
    go_wp2_with (at_builtin; refine Lib.wpList_append_run _ rfl _ _ _ _ rfl _ _ rfl rfl _ _ (Lib.run_append_nil_zeros (P := Tryz.prog) w 24 3 _ 3 i0 (.int .i64 0) .i64 .i64 Tryz.underlying24 Tryz.underlying3 hi hz0 n (by omega) (by omega) (by omega) (by rw [hz2]; omega)) ?_)
    go_ret
    have hge := grownCap_ge w n 0 3
    have hcm := grownCap_le_maxLen w n 0 3 (by unfold maxLen; omega)
    refine ⟨_, _, rfl, ⟨⟨rfl, .inr ⟨w.heap.size, _, _, rfl, Nat.le_refl _, heap_alloc_new _ _, Nat.zero_le _, hcm, ?_, rfl⟩⟩, rfl, by omega⟩, ?_⟩
    · simp [Builtin.zeroCells]
      omega
    · exact (below_drewN (Below.refl _ w) 1).alloc (Nat.le_refl _) _

theorem flat_len8 {bs : List (List Int)} {n : Nat} (h : ∀ k, k < n → (blkAt bs k).length ≤ 8) : ∀ k, k ≤ n → lenTo bs k ≤ 8 * k
  | 0, _ => Nat.le_refl _
  | k + 1, hk => by
    have := flat_len8 h k (by omega)
    have := h k (by omega)
    rw [lenTo]
    omega
set_option maxHeartbeats 2000000 in
theorem concat_any (a : Option Addr) (n cap : Nat) (rs : List Rw) (bs : List (List Int)) (w : World) (h : HasR w a n cap rs) (hbs : numsOf rs = bs) (hn : n ≤ 8) (h8 : ∀ k, k < n → (blkAt bs k).length ≤ 8) :
    Calls Tryz.prog 64 #[.slice a n cap] w fun e w' => ∃ a' m' cap', e = .returned (.slice a' m' cap') ∧ Own w' w.heap.size a' m' cap' (flatTo bs n) ∧ Below w.heap.size w w' := by
  have HROW := hid (fun (W : World) (hb : Below w.heap.size w W) (k : Nat) (hk : k < n) => HasR.rowAt h hb hbs hk)
  have HL := hid (flat_len8 h8)
  have HLF := hid (length_flatTo bs)
  have H8 := hid h8
  clear h h8 hbs
  go_enter Tryz.func64, Tryz.ntmps64
  go_wp2_with fail
  go_loop [3, 11] (fun g i => ∃ k : Nat, k ≤ n ∧ i = .int .i64 (k : Int) ∧ g = .int .i64 (lenTo bs k : Int)) (fun _ i => n - (intOf i).toNat)
  case atStart => exact ⟨0, Nat.zero_le _, rfl, rfl⟩
  case round =>
    obtain ⟨k, hk, rfl, rfl⟩ := hrel
    have hLk := HL.out k hk
    by_cases hlt : k < n
    · obtain ⟨b, off, ak, ck, rfl, hck, -⟩ := HROW.out w (Below.refl _ _) k hlt
      have hle := H8.out k hlt
      have HS : Hid (lenTo bs (k + 1) = lenTo bs k + (blkAt bs k).length) := hid rfl
      generalize (blkAt bs k).length = nk at *
      generalize lenTo bs k = L at *
      have hng : ¬ (L : Int) + (nk : Int) < 0 := by omega
      go_wp2_with fail
      go_round
      case rel => exact ⟨k + 1, by omega, by go_num, by rw [HS.out]; go_num⟩
      case measure => simp [intOf]; omega
    · obtain rfl : k = n := by omega
      obtain ⟨N, hN⟩ : ∃ N, lenTo bs k = N := ⟨_, rfl⟩
      rw [hN] at hLk ⊢
      clear hN
      go_wp2_with fail
      refine (grow_any N (by omega) _).mono ?_
      rintro e w2 ⟨a2, c2, rfl, o2, hb2⟩
      go_wp2_with fail
      go_loopw [6, 27] (fun s i wr => ∃ (j : Nat) (a6 : Option Addr) (m6 c6 : Nat), j ≤ k ∧ i = .int .i64 (j : Int) ∧ s = .slice a6 m6 c6 ∧ Own wr w.heap.size a6 m6 c6 (flatTo bs j) ∧ Below w.heap.size w wr) (fun _ i _ => k - (intOf i).toNat)
      case atStart => exact ⟨0, a2, 0, c2, Nat.zero_le _, rfl, rfl, o2, hb2⟩
      case round =>
        obtain ⟨j, a6, m6, c6, hj, rfl, rfl, o6, hb⟩ := hrel
        clear o2 hb2
        by_cases hlt : j < k
        · obtain ⟨b, off, ak, ck, rfl, hck, H_k⟩ := HROW.out wr hb j hlt
          have hle := H8.out j hlt
          have hm6 : m6 ≤ 64 := by rw [← o6.len, HLF.out]; have := HL.out j hj; omega
          have HFS : Hid (flatTo bs (j + 1) = flatTo bs j ++ blkAt bs j) := hid rfl
          have H1 := H_k.below hb (Nat.le_refl _)
          have hjk : (j : Int) < (k : Int) := by omega
          clear H_k
          go_wp2_with (at_builtin; refine wpList_append_ints _ rfl _ _ rfl w.heap.size _ _ _ _ _ _ _ _ rfl rfl o6 H1 (by omega) hb.size ?_; intro a4 n4 cap4 w4 hn4 hown4 hb4; subst hn4)
          go_roundw
          case rel => exact ⟨j + 1, a4, _, cap4, by omega, by go_num, rfl, by rw [HFS.out]; exact hown4, hb.trans hb4⟩
          case measure => simp [intOf]; omega
        · obtain rfl : j = k := by omega
          go_wp2_with fail
          go_ret
          exact ⟨a6, m6, c6, rfl, o6, hb⟩

theorem eq_any (a b : Option Addr) (n m cap cap' : Nat) (xs ys : List Int) (w : World) (h : Has w a n cap xs) (h' : Has w b m cap' ys) :
    Calls Tryz.prog 33 #[.slice a n cap, .slice b m cap'] w fun e w' => e = .returned (.bool (same xs ys)) ∧ Quiet w w' := by
  have hx := h.len
  have hy := h'.len
  have l1 := h.le
  have l2 := h'.le
  by_cases e : n = m
  · subst e
    by_cases h0 : n = 0
    · subst h0
      obtain rfl : xs = [] := List.eq_nil_of_length_eq_zero hx
      obtain rfl : ys = [] := List.eq_nil_of_length_eq_zero hy
      refine (Tryz.slices_Equal_int_empty a b cap 0 cap' w (by omega)).mono ?_
      rintro e w' ⟨rfl, rfl⟩
      exact ⟨rfl, ⟨0, rfl⟩⟩
    · obtain ⟨b1, o1, rfl, _, c1⟩ := h.2.2.2.2 (by omega)
      obtain ⟨b2, o2, rfl, _, c2⟩ := h'.2.2.2.2 (by omega)
      refine (Tryz.slices_Equal_int b1 o1 n cap b2 o2 n cap' xs ys w (by omega) (by omega) (by omega) (by omega) (fun j hj => c1 j (by omega)) (fun j hj => c2 j (by omega))).mono ?_
      rintro e w' ⟨rfl, q, rfl⟩
      refine ⟨?_, ⟨q, rfl⟩⟩
      rw [List.take_of_length_le (by omega), List.take_of_length_le (by omega)]
      congr 2
      unfold same
      rw [Bool.eq_iff_iff, beq_iff_eq, decide_eq_true_eq]
  · refine (Tryz.slices_Equal_int_lens a b n cap m cap' w e).mono ?_
    rintro e' w' ⟨rfl, rfl⟩
    refine ⟨?_, ⟨0, rfl⟩⟩
    have : same xs ys = false := by
      unfold same
      rw [decide_eq_false]
      rintro rfl
      omega
    rw [this]

set_option maxHeartbeats 2000000 in
theorem eqFunc_any (a b : Option Addr) (n m cap cap' : Nat) (rs ss : List Rw) (ls bs : List (List Int)) (w : World) (h : HasR w a n cap rs) (h' : HasR w b m cap' ss) (hls : numsOf rs = ls) (hbs : numsOf ss = bs) :
    Calls Tryz.prog 32 #[.slice a n cap, .slice b m cap', .func (.func 33) #[] #[]] w fun e w' => e = .returned (.bool (decide (ls = bs))) ∧ Quiet w w' := by
  have n1 : ls.length = n := by have := h.1; rw [← hls]; simpa [numsOf] using this
  have n2 : bs.length = m := by have := h'.1; rw [← hbs]; simpa [numsOf] using this
  have hl := h.2.2.2.1
  have hl' := h'.2.2.2.1
  have HR1 := hid (fun (W : World) (hb : Below w.heap.size w W) (k : Nat) (hk : k < n) => HasR.rowAt h hb hls hk)
  have HR2 := hid (fun (W : World) (hb : Below w.heap.size w W) (k : Nat) (hk : k < m) => HasR.rowAt h' hb hbs hk)
  clear h h' hls hbs
  by_cases e : n = m
  · subst e
    have HSA := hid (blks_same (bs := bs) (ls := ls) (by omega))
    rw [n2] at HSA
    have hne := neq_self_int (n : Int)
    go_enter Tryz.func32, Tryz.ntmps32
    go_wp2_with fail
    go_loopw [17] (fun i wr => ∃ t : Nat, t ≤ n ∧ i = .int .i64 (t : Int) ∧ Quiet w wr ∧ Hid (∀ q, q < t → blkAt bs q = blkAt ls q)) (fun i _ => n - (intOf i).toNat)
    case atStart => exact ⟨0, Nat.zero_le _, rfl, ⟨0, rfl⟩, hid (fun q hq => absurd hq (by omega))⟩
    case round =>
      obtain ⟨t, ht, rfl, hq, HQ⟩ := hrel
      by_cases hlt : t < n
      · obtain ⟨b1, o1, ak, ck, rfl, hck, H_1⟩ := HR1.out wr (hq.below _) t hlt
        obtain ⟨b2, o2, ak', ck', rfl, hck', H_2⟩ := HR2.out wr (hq.below _) t hlt
        have H1 := H_1.below (hq.below _) (Nat.le_refl _)
        have H2 := H_2.below (hq.below _) (Nat.le_refl _)
        have htn : (t : Int) < (n : Int) := by omega
        clear H_1 H_2
        by_cases hs : blkAt bs t = blkAt ls t
        · have HS : Hid (same (blkAt ls t) (blkAt bs t) = true) := hid (by rw [hs]; exact same_self _)
          have HQ2 : Hid (∀ q, q < t + 1 → blkAt bs q = blkAt ls q) := hid (fun q hq => by
            by_cases e : q = t
            · rw [e]; exact hs
            · exact HQ.out q (by omega))
          clear hs
          go_wp2_with fail
          refine (eq_any _ _ _ _ _ _ _ _ _ H1 H2).mono ?_
          rintro e w5 ⟨rfl, q5, rfl⟩
          rw [HS.out]
          go_wp2_with fail
          go_roundw
          case rel => exact ⟨t + 1, by omega, by go_num, Quiet.more hq _, HQ2⟩
          case measure => simp [intOf]; omega
        · have HS : Hid (same (blkAt ls t) (blkAt bs t) = false) := hid (by unfold same; rw [decide_eq_false]; exact fun e => hs e.symm)
          have HD : Hid (decide (ls = bs) = false) := hid (decide_eq_false (fun e => hs (by rw [e])))
          clear hs
          go_wp2_with fail
          refine (eq_any _ _ _ _ _ _ _ _ _ H1 H2).mono ?_
          rintro e w5 ⟨rfl, q5, rfl⟩
          rw [HS.out]
          go_wp2_with fail
          go_ret
          exact ⟨ret_bool HD.out.symm, Quiet.more hq _⟩
      · obtain rfl : t = n := by omega
        have HD : Hid (decide (ls = bs) = true) := hid (decide_eq_true (HSA.out HQ.out))
        go_wp2_with fail
        go_ret
        exact ⟨ret_bool HD.out.symm, hq⟩
  · have hne : ((n : Int) != (m : Int)) = true := by simp; omega
    have HD : Hid (decide (ls = bs) = false) := hid (decide_eq_false (fun e' => e (by rw [← n1, ← n2, e'])))
    go_enter Tryz.func32, Tryz.ntmps32
    go_wp2_with fail
    go_ret
    exact ⟨ret_bool HD.out.symm, ⟨0, rfl⟩⟩
end Go.Proofs.YtnddplldkgphnaaGreat

namespace Go.Proofs.YtnddplldkgphnaaGreat
open Go.RowKit

def areB (bs : List (List Int)) (n : Nat) : Bool := decide (n ≤ 8) && (((List.range n).all fun k => carsB (blkAt bs k) 8) && outB (flatTo bs n))
theorem areB_rows {bs : List (List Int)} {n : Nat} : areB bs n = true ↔ n ≤ 8 ∧ (∀ k, k < n → carsB (blkAt bs k) 8 = true) ∧ outB (flatTo bs n) = true := by
  unfold areB
  rw [Bool.and_eq_true, Bool.and_eq_true, decide_eq_true_eq, List.all_eq_true]
  simp only [List.mem_range]
theorem ok_are {bs : List (List Int)} {n : Nat} (hl : bs.length = n) (h : okBl bs = true) : areB bs n = true := by
  unfold okBl at h
  rw [hl, Bool.and_eq_true] at h
  obtain ⟨h1, h2⟩ := h
  have h3 := out_pre.1 h2
  rw [length_flatTo] at h3
  have h4 := nonTo_len h1
  refine areB_rows.2 ⟨by omega, fun k hk => carsB_iff.2 ⟨?_, fun x hx => ?_⟩, h2⟩
  · have := lenTo_mono bs (k := k + 1) (n - (k + 1))
    rw [show k + 1 + (n - (k + 1)) = n by omega, lenTo] at this
    omega
  · have hm : x ∈ flatTo bs n := (flat_part bs hk (blkAt bs k).length).subset (by rw [List.take_length]; exact List.mem_append_right _ hx)
    have := h3.2.2 x hm
    omega
theorem from_not {bs : List (List Int)} {n : Nat} (hl : bs.length = n) (h : ¬ areB bs n = true) : fromUnit bs = ([], false) := by
  unfold fromUnit
  rw [if_neg]
  rintro ⟨h1, _⟩
  exact h (ok_are hl h1)
theorem blk_full {xs ls : List Int} : ∀ k, ∀ r ∈ blk xs ls k, 0 < r.length
  | 0, r, h => by simp [blk] at h
  | k + 1, r, h => by
    rw [blk] at h
    split at h
    · rcases List.mem_append.1 h with h | h
      · exact blk_full k r h
      · rw [List.mem_singleton] at h; subst h; simp
    · unfold addLast at h
      rcases List.mem_append.1 h with h | h
      · exact blk_full k r (List.dropLast_subset _ h)
      · rw [List.mem_singleton] at h; subst h; simp
theorem from_own {bs : List (List Int)} {n : Nat} (hl : bs.length = n) (h : areB bs n = true) (hu : unitBlocksOf (placeBl bs) = (bs, true)) : fromUnit bs = (placeBl bs, true) := by
  have h1 := areB_rows.1 h
  unfold fromUnit
  rw [if_pos]
  refine ⟨?_, hu⟩
  unfold okBl
  rw [hl, h1.2.2, Bool.and_true]
  unfold nonTo
  rw [List.all_eq_true]
  intro k hk
  rw [List.mem_range] at hk
  rw [decide_eq_true_eq]
  unfold unitBlocksOf at hu
  split at hu
  · simp only [Prod.mk.injEq, and_true] at hu
    refine blk_full (xs := placeBl bs) (ls := fairL (placeBl bs)) (placeBl bs).length _ ?_
    rw [hu]
    unfold blkAt
    rw [List.getD_eq_getElem?_getD, List.getElem?_eq_getElem (by omega)]
    exact List.getElem_mem _
  · simp at hu
theorem plIn_take (f : Nat) (b ys : List Int) (N : Nat) : ∀ i, (plIn f b ys i).take N = plIn f b (ys.take N) i
  | 0 => rfl
  | i + 1 => by rw [plIn, plIn, List.take_set, plIn_take f b ys N i]
theorem plTo_take (bs : List (List Int)) {N : Nat} (hN : N ≤ 8) : ∀ k, (plTo 8 bs k).take N = plTo N bs k
  | 0 => by rw [plTo, plTo, List.take_replicate, Nat.min_eq_left hN]
  | k + 1 => by rw [plTo, plTo, plIn_take, plTo_take bs hN k]

set_option maxHeartbeats 1600000 in
theorem areBlocks_any (a : Option Addr) (n cap : Nat) (rs : List Rw) (bs : List (List Int)) (w : World) (h : HasR w a n cap rs) (hbs : numsOf rs = bs) :
    Calls Tryz.prog 30 #[.slice a n cap] w (PostBool w (areB bs n)) := by
  have hnb := h.2.2.2.1
  by_cases h8 : n ≤ 8
  · have HROW := hid (fun (k : Nat) (hk : k < n) => HasR.rowAt h (Below.refl _ _) hbs hk)
    have HC := hid (fun (hh : ∀ k, k < n → (blkAt bs k).length ≤ 8) => concat_any a n cap rs bs w h hbs h8 hh)
    have HNO : Hid (∀ k, k < n → ¬ carsB (blkAt bs k) 8 = true → areB bs n = false) := hid (fun k hk hc => Bool.eq_false_iff.2 (fun e => hc ((areB_rows.1 e).2.1 k hk)))
    have HYE : Hid ((∀ k, k < n → carsB (blkAt bs k) 8 = true) → areB bs n = outB (flatTo bs n)) := hid (fun hh => by
      unfold areB
      rw [decide_eq_true h8, Bool.true_and, List.all_eq_true.2 (fun k hk => hh k (List.mem_range.1 hk)), Bool.true_and])
    have hg : ¬ (8 : Int) < (n : Int) := by omega
    clear h hbs
    go_enter Tryz.func30, Tryz.ntmps30
    go_wp2_with fail
    go_loop [10] (fun i => ∃ k : Nat, k ≤ n ∧ i = .int .i64 (k : Int) ∧ Hid (∀ j, j < k → carsB (blkAt bs j) 8 = true)) (fun i => n - (intOf i).toNat)
    case atStart => exact ⟨0, Nat.zero_le _, rfl, hid (fun j hj => absurd hj (by omega))⟩
    case round =>
      obtain ⟨k, hk, rfl, HK⟩ := hrel
      by_cases hlt : k < n
      · obtain ⟨b, off, ak, ck, rfl, hck, H_k⟩ := HROW.out k hlt
        by_cases hc : carsB (blkAt bs k) 8 = true
        · have HCB := hid hc
          have HK2 : Hid (∀ j, j < k + 1 → carsB (blkAt bs j) 8 = true) := hid (fun j hj => by
            by_cases e : j = k
            · rw [e]; exact hc
            · exact HK.out j (by omega))
          clear hc
          go_wp2_with (go_at_call 49; refine (areCarsBelow_any _ _ _ _ _ _ H_k).mono ?_; rintro e w' ⟨rfl, rfl⟩; rw [HCB.out])
          go_round
          case rel => exact ⟨k + 1, by omega, by go_num, HK2⟩
          case measure => simp [intOf]; omega
        · have HCB := hid (Bool.eq_false_iff.2 hc)
          have HR := hid (HNO.out k hlt hc)
          clear hc
          go_wp2_with (go_at_call 49; refine (areCarsBelow_any _ _ _ _ _ _ H_k).mono ?_; rintro e w' ⟨rfl, rfl⟩; rw [HCB.out])
          go_ret
          exact postBool HR.out.symm (Below.refl _ _)
      · obtain rfl : k = n := by omega
        have HR := hid (HYE.out HK.out)
        go_wp2_with fail
        refine (HC.out (fun j hj => (carsB_iff.1 (HK.out j hj)).1)).mono ?_
        rintro e w2 ⟨a2, m2, c2, rfl, o2, hb2⟩
        go_wp2_with fail
        refine (isOutcome_any _ _ _ _ _ o2.has).mono ?_
        rintro e w3 ⟨rfl, hb3⟩
        go_wp2_with fail
        go_ret
        exact postBool HR.out.symm (hb2.trans (hb3.mono hb2.size))
  · have HR : Hid (areB bs n = false) := hid (Bool.eq_false_iff.2 (fun e => h8 (areB_rows.1 e).1))
    have hg : (8 : Int) < (n : Int) := by omega
    go_enter Tryz.func30, Tryz.ntmps30
    go_wp2_with fail
    go_ret
    exact postBool HR.out.symm (Below.refl _ _)
theorem are_len {bs : List (List Int)} {n : Nat} (h : areB bs n = true) : n ≤ 8 ∧ lenTo bs n ≤ 8 ∧ (∀ j, j < n → lenTo bs j + (blkAt bs j).length ≤ lenTo bs n) ∧ ∀ j i, j < n → i < (blkAt bs j).length → ∃ c : Nat, nth (blkAt bs j) i = (c : Int) ∧ c < 8 := by
  obtain ⟨h1, h2, h3⟩ := areB_rows.1 h
  have h4 := (out_pre.1 h3).1
  rw [length_flatTo] at h4
  refine ⟨h1, h4, fun j hj => ?_, fun j i hj hi => ?_⟩
  · have := lenTo_mono bs (k := j + 1) (n - (j + 1))
    rw [show j + 1 + (n - (j + 1)) = n by omega] at this
    exact this
  · have := (carsB_iff.1 (h2 j hj)).2 _ (nth_mem hi)
    exact ⟨(nth (blkAt bs j) i).toNat, by omega, by omega⟩
theorem nth_zeros (n z : Nat) : nth (List.replicate n (0 : Int)) z = 0 := by
  unfold nth
  rw [List.getD_eq_getElem?_getD, List.getElem?_replicate]
  split <;> rfl
theorem Arr.put {w : World} {blk : Nat} {ys : List Int} (h : Arr w blk (fun z => .int .i64 (nth ys z))) (hl : ys.length = 8) {c : Nat} (hc : c < 8) (v : Int) : Arr (w.setCell ⟨blk, c, none⟩ (.int .i64 v)) blk (fun z => .int .i64 (nth (ys.set c v) z)) := by
  refine (h.set hc (.int .i64 v)).congr fun z hz => ?_
  rw [nth_set (by omega)]
  by_cases e : z = c
  · rw [if_pos e, if_pos e.symm]
  · rw [if_neg e, if_neg (fun e' => e e'.symm)]

set_option maxRecDepth 100000 in
set_option maxHeartbeats 8000000 in
theorem implFrom_any (a : Option Addr) (n cap : Nat) (rs : List Rw) (w : World) (h : HasR w a n cap rs) :
    Calls Tryz.prog 10 #[.slice a n cap] w (PostInts w (fromUnit (numsOf rs))) := by
  have hnl : (numsOf rs).length = n := by have := h.1; simpa [numsOf] using this
  have hn := h.2.2.2.1
  obtain ⟨bs, hbs⟩ : ∃ bs, numsOf rs = bs := ⟨_, rfl⟩
  rw [hbs] at hnl ⊢
  have HAB := hid (areBlocks_any a n cap rs bs w h hbs)
  by_cases hA : areB bs n = true
  · have HA := hid hA
    obtain ⟨h8, hN8, hlen, hcar⟩ := are_len hA
    have HROW := hid (fun (W : World) (hb : Below w.heap.size w W) (k : Nat) (hk : k < n) => HasR.rowAt h hb hbs hk)
    have HH := hid h
    have HBS := hid hbs
    have HLM := hid hlen
    have HCA := hid hcar
    have HNO := hid (from_other (bs := bs))
    have HYE := hid (from_own hnl hA)
    have HPB : Hid (placeBl bs = plTo (lenTo bs n) bs n) := hid (by unfold placeBl; rw [hnl])
    clear hA h hbs hlen hcar hnl
    go_enter Tryz.func10, Tryz.ntmps10
    go_wp2_with fail
    refine HAB.out.mono ?_
    rw [HA.out]
    rintro e w1 ⟨rfl, hb1⟩
    have A0 : Arr (w1.alloc (.cells #[.int .i64 0, .int .i64 0, .int .i64 0, .int .i64 0, .int .i64 0, .int .i64 0, .int .i64 0, .int .i64 0] 57)) w1.heap.size (fun z => .int .i64 (nth (plTo 8 bs 0) z)) := (arr_new _ _ _).congr (fun z _ => by rw [plTo, nth_zeros])
    have hb2 : Below w.heap.size w (w1.alloc (.cells #[.int .i64 0, .int .i64 0, .int .i64 0, .int .i64 0, .int .i64 0, .int .i64 0, .int .i64 0, .int .i64 0] 57)) := hb1.alloc hb1.size _
    have hs1 := hb1.size
    have hsz1 : w1.heap.size < (w1.alloc (.cells #[.int .i64 0, .int .i64 0, .int .i64 0, .int .i64 0, .int .i64 0, .int .i64 0, .int .i64 0, .int .i64 0] 57)).heap.size := by simp
    obtain ⟨g, hg⟩ : ∃ g, w1.heap.size = g := ⟨_, rfl⟩
    go_wp2_with fail
    rw [hg] at A0 hs1 hsz1
    clear hb1 hg
    generalize w1.alloc (.cells #[.int .i64 0, .int .i64 0, .int .i64 0, .int .i64 0, .int .i64 0, .int .i64 0, .int .i64 0, .int .i64 0] 57) = w2 at *
    obtain ⟨N, hN⟩ : ∃ N, lenTo bs n = N := ⟨_, rfl⟩
    rw [hN] at hN8 HLM HPB
    have HNN := hid hN
    clear hN
    go_loopw [5, 18] (fun f i wr => ∃ j : Nat, j ≤ n ∧ i = .int .i64 (j : Int) ∧ f = .int .i64 (lenTo bs j : Int) ∧ lenTo bs j ≤ N ∧ Arr wr g (fun z => .int .i64 (nth (plTo 8 bs j) z)) ∧ Below w.heap.size w wr ∧ g < wr.heap.size) (fun _ i _ => n - (intOf i).toNat)
    case atStart => exact ⟨0, Nat.zero_le _, rfl, rfl, Nat.zero_le _, A0, hb2, hsz1⟩
    case round =>
      obtain ⟨j, hj, rfl, rfl, hLj, A, hb, hsz⟩ := hrel
      clear A0 hb2 hsz1
      by_cases hlt : j < n
      · obtain ⟨b, off, ak, ck, rfl, hck, H_k⟩ := HROW.out wr hb j hlt
        have hle := HLM.out j hlt
        have HCJ := hid (fun i hi => HCA.out j i hlt hi)
        have HS : Hid (lenTo bs (j + 1) = lenTo bs j + (blkAt bs j).length) := hid rfl
        have HPS : Hid (plTo 8 bs (j + 1) = plIn (lenTo bs j) (blkAt bs j) (plTo 8 bs j) (blkAt bs j).length) := hid rfl
        have HYL : Hid ((plTo 8 bs j).length = 8) := hid (length_plTo 8 bs j)
        have hjk : (j : Int) < (n : Int) := by omega
        generalize lenTo bs j = F at *
        generalize plTo 8 bs j = ys at *
        obtain ⟨blk, hblk⟩ : ∃ blk, blkAt bs j = blk := ⟨_, rfl⟩
        rw [hblk] at hck H_k hle HS HPS HCJ
        clear hblk
        obtain ⟨nk, hnk⟩ : ∃ nk, blk.length = nk := ⟨_, rfl⟩
        rw [hnk] at hck H_k hle HS HPS HCJ
        clear hnk
        go_wp2_with fail
        go_loopw [24] (fun i wr => ∃ t : Nat, t ≤ nk ∧ i = .int .i64 (t : Int) ∧ Arr wr g (fun z => .int .i64 (nth (plIn F blk ys t) z)) ∧ Below w.heap.size w wr ∧ g < wr.heap.size) (fun i _ => nk - (intOf i).toNat)
        case atStart => exact ⟨0, Nat.zero_le _, rfl, A, hb, hsz⟩
        case round =>
          clear A hb hsz hck
          obtain ⟨t, ht, rfl, A, hb, hsz⟩ := hrel
          by_cases hlt2 : t < nk
          · obtain ⟨bb, ob, hab, hbb, hcb⟩ := H_k.2.2.2.2 (by omega)
            obtain ⟨c, hc, hc8⟩ := HCJ.out t hlt2
            have hct : wr.cell? ⟨bb, ob + t, none⟩ = some (.int .i64 (c : Int)) := by rw [hb.cell (p := ⟨bb, ob + t, none⟩) hbb, hcb t hlt2, hc]
            subst hab
            have htn : (t : Int) < (nk : Int) := by omega
            have hc0 : (0 : Int) ≤ (c : Int) := by omega
            have hc9 : (c : Int) < 8 := by omega
            obtain ⟨u, hu⟩ : ∃ u, t - 1 = u := ⟨_, rfl⟩
            have hu8 : u ≤ 8 := by omega
            have hmx : max ((t : Int) - 1) 0 = (u : Int) := by rw [pred_max, hu]
            have HPI : Hid (plIn F blk ys (t + 1) = (plIn F blk ys t).set c ((F : Int) + (u : Int))) := hid (by rw [plIn, hc, Int.toNat_natCast, hu])
            have hwt : IntKind.i64.wrap ((t : Int) - 1) = (t : Int) - 1 := by rw [IntKind.wrap_i64]; omega
            have hfc := A.free c
            have hcc := A.cell c hc8
            have A2 := A.put (by rw [length_plIn, HYL.out]) hc8 ((F : Int) + (u : Int))
            have hb9 := hb.setCell (p := ⟨g, c, none⟩) hs1 (.int .i64 ((F : Int) + (u : Int)))
            have hsz9 : g < (wr.setCell ⟨g, c, none⟩ (.int .i64 ((F : Int) + (u : Int)))).heap.size := by simpa using hsz
            clear hcb hc A
            go_wp2_with fail
            go_roundw
            case rel => exact ⟨t + 1, by omega, by go_num, by rw [HPI.out]; exact A2, hb9, hsz9⟩
            case measure => simp [intOf]; omega
          · obtain rfl : t = nk := by omega
            go_wp2_with fail
            go_roundw
            case rel => exact ⟨j + 1, by omega, by go_num, by rw [HS.out]; go_num, by rw [HS.out]; omega, by rw [HPS.out]; exact A, hb, hsz⟩
            case measure => simp [intOf]; omega
      · obtain rfl : j = n := by omega
        rw [HNN.out]
        have HA2 : Has wr (some ⟨g, 0, none⟩) N 8 (plTo N bs j) := ⟨length_plTo _ _ _, by omega, by unfold maxLen; omega, by omega, fun _ => ⟨g, 0, rfl, hsz, fun i hi => by
          rw [Nat.zero_add, A.cell i (by omega), ← plTo_take bs hN8 j]
          congr 2
          simp [nth, hi]⟩⟩
        have HPL := hid (length_plTo N bs j)
        obtain ⟨pl, hpl⟩ : ∃ pl, plTo N bs j = pl := ⟨_, rfl⟩
        rw [hpl] at HA2 HPB HPL
        obtain ⟨⟨ls, ok⟩, hu⟩ : ∃ r, unitBlocksOf pl = r := ⟨_, rfl⟩
        have HU := hid hu
        have G5 := hid HNO.out
        have G6 := hid HYE.out
        rw [HPB.out, hu] at G5 G6
        clear hu hpl A HNO HYE
        have hN0 : (0 : Int) ≤ (N : Int) := by omega
        have hN9 : (N : Int) ≤ 8 := by omega
        go_wp2_with fail
        refine (clone_any _ _ _ _ _ HA2).mono ?_
        rintro e w3 ⟨a3, c3, rfl, o3, hb3⟩
        have hb13 := hb.trans (hb3.mono hb.size)
        go_wp2_with fail
        refine (implBlocks_any _ _ _ _ _ o3.has).mono ?_
        rw [HU.out]
        rintro e w4 ⟨a4, n4, c4, ss, rfl, R4, hn4, hb4⟩
        replace hn4 : numsOf ss = ls := hn4
        have o4 := o3.below hb4 (Nat.le_refl _)
        have hb14 := hb13.trans (hb4.mono hb13.size)
        have HN4 := hid hn4
        clear o3 hb3 hb4 hn4 hb13 HA2
        cases ok with
        | false =>
          have HR := hid (G5.out (by simp))
          go_wp2_with fail
          go_ret2
          exact postInts_no HR.out hb14
        | true =>
          by_cases hs : ls = bs
          · have HD : Hid (decide (ls = bs) = true) := hid (decide_eq_true hs)
            have HR := hid (G6.out (by rw [hs]))
            clear hs
            go_wp2_with fail
            refine (eqFunc_any _ _ _ _ _ _ _ _ ls bs _ R4.has (HH.out.below hb14 (Nat.le_refl _)) HN4.out HBS.out).mono ?_
            rintro e w5 ⟨rfl, q5⟩
            rw [HD.out]
            have o5 := o4.below (q5.below _) (Nat.le_refl _)
            have hb15 := hb14.trans (q5.below _)
            clear q5
            go_wp2_with fail
            go_ret2
            exact postInts HR.out (o5.mono hb.size) hb15
          · have HD : Hid (decide (ls = bs) = false) := hid (decide_eq_false hs)
            have HR := hid (G5.out (by simpa using hs))
            clear hs
            go_wp2_with fail
            refine (eqFunc_any _ _ _ _ _ _ _ _ ls bs _ R4.has (HH.out.below hb14 (Nat.le_refl _)) HN4.out HBS.out).mono ?_
            rintro e w5 ⟨rfl, q5⟩
            rw [HD.out]
            have hb15 := hb14.trans (q5.below _)
            clear q5
            go_wp2_with fail
            go_ret2
            exact postInts_no HR.out hb15
  · have HA := hid (Bool.eq_false_iff.2 hA)
    have HR := hid (from_not hnl hA)
    clear hA h hbs
    go_enter Tryz.func10, Tryz.ntmps10
    go_wp2_with fail
    refine HAB.out.mono ?_
    rw [HA.out]
    rintro e w1 ⟨rfl, hb1⟩
    go_wp2_with fail
    go_ret2
    exact postInts_no HR.out hb1
end Go.Proofs.YtnddplldkgphnaaGreat

namespace Go.Proofs.YtnddplldkgphnaaGreat
open Go.RowKit

theorem cut_from {xs : List Int} {n j : Nat} (hn : xs.length = n) (h1 : 1 ≤ j) : isCut xs j = ((n : Int) - (from' xs j : Int) == (j : Int)) := by
  have := from_below xs j
  unfold isCut
  rw [Bool.eq_iff_iff]
  simp
  omega

theorem idxs_one {f : Nat → Bool} (h : f 0 = false) : idxs f 1 = [] := by simp [idxs, List.range_succ, h]

/-- What b's numbers become. -/
def shifted (ys : List Int) (d : Int) : List Int := ys.map (· + d)
theorem shifted_succ {ys : List Int} {d : Int} {k : Nat} (h : k < ys.length) : (shifted ys d).take (k + 1) = (shifted ys d).take k ++ [nth ys k + d] := by
  rw [take_succ_nth (by simpa [shifted] using h)]
  simp [shifted, nth, h]
theorem length_shifted (ys : List Int) (d : Int) : (shifted ys d).length = ys.length := by simp [shifted]
theorem join_yes {xs ys : List Int} {n m : Nat} (hn : xs.length = n) (hm : ys.length = m) (hx : isPark xs = true) (hy : isPark ys = true) (h : n + m ≤ 8) : joinOf xs ys = (xs ++ shifted ys n, true) := by
  simp [joinOf, hx, hy, hn, hm, h, shifted]
theorem park_bounds {ys : List Int} {m : Nat} (hm : ys.length = m) (h : isPark ys = true) : ∀ i, i < m → 0 ≤ nth ys i ∧ nth ys i ≤ (m : Int) - 1 := by
  intro i hi
  have := (isPark_iff.1 h).2.1 _ (nth_mem (xs := ys) (i := i) (by omega))
  omega

end Go.Proofs.YtnddplldkgphnaaGreat

namespace Go.Proofs.YtnddplldkgphnaaGreat
open Go.RowKit

theorem cut_below {xs : List Int} {j : Nat} (h1 : 1 ≤ j) : isCut xs j = ((below xs j : Int) == (j : Int)) := by
  unfold isCut
  rw [Bool.eq_iff_iff]
  simp
  omega

end Go.Proofs.YtnddplldkgphnaaGreat

namespace Go.Proofs.YtnddplldkgphnaaGreat
open Go.RowKit

theorem isCarNumber_any (n : Int) (w : World) :
    Calls Tryz.prog 46 #[.int .i64 n] w fun e w' => e = .returned (.bool (inB n 0 8)) ∧ w = w' := by
  by_cases h1 : 0 ≤ n
  · by_cases h2 : n ≤ 8
    · have HR : Hid (inB n 0 8 = true) := hid (inB_iff.2 ⟨h1, h2⟩)
      go_enter Tryz.func46, Tryz.ntmps46
      go_wp2_with fail
      go_ret
      exact ⟨ret_bool HR.out.symm, rfl⟩
    · have HR : Hid (inB n 0 8 = false) := hid (by rw [inB_not]; omega)
      go_enter Tryz.func46, Tryz.ntmps46
      go_wp2_with fail
      go_ret
      exact ⟨ret_bool HR.out.symm, rfl⟩
  · have HR : Hid (inB n 0 8 = false) := hid (by rw [inB_not]; omega)
    go_enter Tryz.func46, Tryz.ntmps46
    go_wp2_with fail
    go_ret
    exact ⟨ret_bool HR.out.symm, rfl⟩

set_option maxHeartbeats 400000 in
theorem power_any (b k : Nat) (w : World) (hb : b ≤ 13) (hk : k ≤ 8) :
    Calls Tryz.prog 68 #[.int .i64 (b : Int), .int .i64 (k : Int)] w fun e w' => e = .returned (.int .i64 ((b ^ k : Nat) : Int)) ∧ w = w' := by
  go_enter Tryz.func68, Tryz.ntmps68
  go_wp2_with fail
  go_loop [5, 7] (fun o i => ∃ j : Nat, j ≤ k ∧ i = .int .i64 (j : Int) ∧ o = .int .i64 ((b ^ j : Nat) : Int)) (fun _ i => k - (intOf i).toNat)
  case atStart => exact ⟨0, Nat.zero_le _, rfl, by simp⟩
  case round =>
    obtain ⟨j, hj, rfl, rfl⟩ := hrel
    have hp := pow_small b (by omega) j (by omega)
    by_cases hlt : j < k
    · have hq := pow_small b (by omega) (j + 1) (by omega)
      have HP : Hid (((b ^ (j + 1) : Nat) : Int) = ((b ^ j : Nat) : Int) * (b : Int)) := hid (by rw [Nat.pow_succ, Int.natCast_mul])
      obtain ⟨q, hqe⟩ : ∃ q, b ^ (j + 1) = q := ⟨_, rfl⟩
      have HQ := hid hqe
      rw [hqe] at hq HP
      clear hqe
      have hq1 : ((b ^ j : Nat) : Int) * (b : Int) ≤ 815730721 := by rw [← HP.out]; exact Int.ofNat_le.2 hq
      have hq0 : 0 ≤ ((b ^ j : Nat) : Int) * (b : Int) := by rw [← HP.out]; exact Int.natCast_nonneg _
      clear hq
      generalize b ^ j = p at *
      go_wp2_with fail
      go_round
      case rel => exact ⟨j + 1, by omega, by go_num, by rw [HQ.out, HP.out]⟩
      case measure => simp [intOf]; omega
    · obtain rfl : j = k := by omega
      go_wp2_with fail
      go_ret
      exact ⟨rfl, rfl⟩
theorem power_at (b k r : Nat) (B K : Int) (w : World) (hB : B = (b : Int)) (hK : K = (k : Int)) (hb : b ≤ 13) (hk : k ≤ 8) (hr : Hid (b ^ k = r)) :
    Calls Tryz.prog 68 #[.int .i64 B, .int .i64 K] w fun e w' => e = .returned (.int .i64 (r : Int)) ∧ w = w' := by
  subst hB hK
  have := hr.out
  subst this
  exact power_any b k w hb hk

set_option maxHeartbeats 800000 in
theorem streetN_any (c q : Nat) (w : World) (hc : c ≤ 8) (hq : q ≤ 12) :
    Calls Tryz.prog 47 #[.int .i64 (c : Int), .int .i64 (q : Int)] w fun e w' => e = .returned (.int .i64 (streetCnt c q : Int)) ∧ w = w' := by
  cases c with
  | zero =>
    go_enter Tryz.func47, Tryz.ntmps47
    go_wp2_with fail
    go_ret
    exact ⟨rfl, rfl⟩
  | succ k =>
    have hbe : ((k : Int) + 1 == 0) = false := by simp; omega
    by_cases hlt : q < k + 1
    · have HS : Hid (streetCnt (k + 1) q = 0) := hid (by simp [streetCnt, hlt])
      have hlt' : (q : Int) < (k : Int) + 1 := by omega
      go_enter Tryz.func47, Tryz.ntmps47
      go_wp2_with fail
      go_ret
      exact ⟨ret_int (by rw [HS.out]; rfl), rfl⟩
    · have hs := street_small (k + 1) (by omega) q (by omega) (by omega) (by omega)
      have hpw := pow_small (q + 1) (by omega) k (by omega)
      have hS : streetCnt (k + 1) q = (q + 1 - (k + 1)) * (q + 1) ^ k := by simp [streetCnt, hlt]
      rw [show k + 1 - 1 = k from rfl] at hs
      obtain ⟨r, hre⟩ : ∃ r, (q + 1) ^ k = r := ⟨_, rfl⟩
      have HE := hid hre
      rw [hre] at hs hpw hS
      have hi : (((q + 1 - (k + 1)) * r : Nat) : Int) = ((q : Int) + 1 - ((k : Int) + 1)) * (r : Int) := by
        rw [Int.natCast_mul]
        congr 1
        omega
      have HS : Hid ((streetCnt (k + 1) q : Int) = ((q : Int) + 1 - ((k : Int) + 1)) * (r : Int)) := hid (by rw [hS, hi])
      have hi1 : ((q : Int) + 1 - ((k : Int) + 1)) * (r : Int) ≤ 815730721 := by rw [← hi]; exact Int.ofNat_le.2 hs
      have hi0 : 0 ≤ ((q : Int) + 1 - ((k : Int) + 1)) * (r : Int) := by rw [← hi]; exact Int.natCast_nonneg _
      clear hre hS hi hs
      have hnl : ¬ (q : Int) < (k : Int) + 1 := by omega
      go_enter Tryz.func47, Tryz.ntmps47
      go_wp2_with (go_at_call 68; refine (power_at (q + 1) k r _ _ _ (by omega) (by omega) (by omega) (by omega) HE).mono ?_; rintro e w' ⟨rfl, rfl⟩)
      go_ret
      exact ⟨ret_int HS.out.symm, rfl⟩

theorem streetCnt_le {c q : Nat} (hc : c ≤ 8) (hq : q ≤ 12) : streetCnt c q ≤ 815730721 := by
  have : ∀ c, c < 9 → ∀ q, q < 13 → streetCnt c q ≤ 815730721 := by decide +kernel
  exact this c (by omega) q (by omega)
theorem streetCnt_self : ∀ n, n < 9 → streetCnt n n = cnt n := by decide +kernel

set_option maxHeartbeats 400000 in
theorem countParking_any (n : Int) (w : World) : Calls Tryz.prog 19 #[.int .i64 n] w (PostInt w (countOf n)) := by
  by_cases hg : inB n 0 8 = true
  · obtain ⟨m, rfl⟩ : ∃ m : Nat, n = (m : Int) := ⟨n.toNat, by have := inB_iff.1 hg; omega⟩
    have hm : m ≤ 8 := by have := inB_iff.1 hg; omega
    have HR : Hid (countOf m = ((streetCnt m m : Int), true)) := hid (by simp [countOf, hg, streetCnt_self m (by omega)])
    have HG := hid hg
    clear hg
    go_enter Tryz.func19, Tryz.ntmps19
    go_wp2_with (first | (go_at_call 46; refine (isCarNumber_any _ _).mono ?_; rintro e w' ⟨rfl, rfl⟩; rw [HG.out]) | (go_at_call 47; refine (streetN_any _ _ _ hm (by omega)).mono ?_; rintro e w' ⟨rfl, rfl⟩))
    go_ret2
    exact postInt HR.out (Below.refl _ _)
  · have HR : Hid (countOf n = (0, false)) := hid (by simp [countOf, hg])
    have HG := hid hg
    clear hg
    go_enter Tryz.func19, Tryz.ntmps19
    go_wp2_with (go_at_call 46; refine (isCarNumber_any _ _).mono ?_; rintro e w' ⟨rfl, rfl⟩; rw [Bool.eq_false_iff.2 HG.out])
    go_ret2
    exact postInt HR.out (Below.refl _ _)

end Go.Proofs.YtnddplldkgphnaaGreat

namespace Go.Proofs.YtnddplldkgphnaaGreat
open Go.RowKit

/-- Whether the bytes are too many. -/
def Big (n m : Nat) (w : World) (e : Ending) (w' : World) : Prop := ∃ r : Bool, e = .returned (.bool r) ∧ (r = false → n + m ≤ 1048576) ∧ w = w'

theorem big_any (a b : Option Addr) (n m cap cap' : Nat) (w : World) (hn : n ≤ 9223372036854775807) :
    Calls Tryz.prog 4 #[.slice a n cap, .slice b m cap'] w (Big n m w) := by
  by_cases h1 : (1048576 : Int) < (n : Int)
  · go_enter Tryz.func4, Tryz.ntmps4
    go_wp2_with fail
    go_ret
    exact ⟨true, ret_bool (by simp), by simp, rfl⟩
  · by_cases h2 : (1048576 : Int) - n < (m : Int)
    · go_enter Tryz.func4, Tryz.ntmps4
      go_wp2_with fail
      go_ret
      exact ⟨true, ret_bool (by simp), by simp, rfl⟩
    · go_enter Tryz.func4, Tryz.ntmps4
      go_wp2_with fail
      go_ret
      exact ⟨false, ret_bool (by simp), fun _ => by omega, rfl⟩

set_option maxHeartbeats 400000 in
theorem jSame_any (a b : Option Addr) (n m cap cap' : Nat) (xs ys : List Int) (w : World) (h : Has w a n cap xs) (h' : Has w b m cap' ys) :
    Calls Tryz.prog 11 #[.slice a n cap, .slice b m cap'] w fun e w' => e = .returned (.bool (same xs ys)) ∧ Quiet w w' := by
  obtain ⟨h0, h1, h2, h3, h4⟩ := h
  obtain ⟨k0, k1, k2, k3, k4⟩ := h'
  by_cases hnm : n = m
  · have hb : ((n : Int) != (m : Int)) = false := by simp [hnm]
    subst hnm
    go_enter Tryz.func11, Tryz.ntmps11
    go_wp2_with fail
    go_loopw [13] (fun i wr => ∃ k : Nat, k ≤ n ∧ i = .int .i64 k ∧ FromTo xs ys k ∧ Quiet w wr) (fun i _ => n - (intOf i).toNat)
    case atStart => exact ⟨0, Nat.zero_le _, rfl, fun i hi => by omega, ⟨0, rfl⟩⟩
    case round =>
      obtain ⟨k, hk, rfl, hft, q, hq⟩ := hrel
      subst hq
      by_cases hlt : k < n
      · obtain ⟨b1, off1, rfl, hb1, hc1⟩ := h4 (by omega)
        obtain ⟨b2, off2, rfl, hb2, hc2⟩ := k4 (by omega)
        have hck := hc1 k hlt
        have hdk := hc2 k hlt
        have hkk : (k : Int) < (n : Int) := by omega
        have hkz : (0 : Int) ≤ (k : Int) := by omega
        clear hc1 hc2 h4 k4
        by_cases he : nth xs k = nth ys k
        · have hbe : (nth xs k != nth ys k) = false := by simp [he]
          have HE := hid he
          clear he
          go_wp2_with fail
          go_quiet (fail)
          go_wp2_with fail
          go_roundw
          case rel => exact ⟨k + 1, by omega, by go_num, fun i hi => by rcases Nat.lt_succ_iff_lt_or_eq.1 hi with h | rfl; exact hft i h; exact HE.out.symm, ⟨_, rfl⟩⟩
          case measure => simp [intOf]; omega
        · have hbe : (nth xs k != nth ys k) = true := by simp [he]
          have HE := hid he
          clear he
          go_wp2_with fail
          go_quiet (fail)
          go_wp2_with fail
          go_ret
          exact ⟨ret_bool (same_no HE.out).symm, (Quiet.more ⟨_, rfl⟩ _)⟩
      · obtain rfl : k = n := by omega
        go_wp2_with fail
        go_ret
        exact ⟨ret_bool (same_yes (by omega) (by rw [h0]; exact hft)).symm, ⟨_, rfl⟩⟩
  · have hb : ((n : Int) != (m : Int)) = true := by simp; omega
    go_enter Tryz.func11, Tryz.ntmps11
    go_wp2_with fail
    go_ret
    exact ⟨ret_bool (show false = same xs ys from by unfold same; symm; rw [decide_eq_false_iff_not]; rintro rfl; omega), ⟨0, rfl⟩⟩

end Go.Proofs.YtnddplldkgphnaaGreat

namespace Go.Proofs.YtnddplldkgphnaaGreat
open Go.RowKit

set_option maxHeartbeats 800000 in
theorem jRows_any (a b : Option Addr) (n m cap cap' : Nat) (rs ss : List Rw) (w : World) (h : HasR w a n cap rs) (h' : HasR w b m cap' ss) :
    Calls Tryz.prog 8 #[.slice a n cap, .slice b m cap'] w fun e w' => e = .returned (.bool (sameR rs ss)) ∧ Quiet w w' := by
  obtain ⟨h0, h1, h2, h3, h4, h5⟩ := h
  obtain ⟨k0, k1, k2, k3, k4, k5⟩ := h'
  by_cases hnm : n = m
  · have hb : ((n : Int) != (m : Int)) = false := by simp [hnm]
    subst hnm
    have HL := hid h0
    have HL' := hid k0
    have H5 := hid h5
    have K5 := hid k5
    clear h0 k0 h5 k5
    go_enter Tryz.func8, Tryz.ntmps8
    go_wp2_with fail
    go_loopw [13] (fun i wr => ∃ k : Nat, k ≤ n ∧ i = .int .i64 k ∧ Hid (∀ j, j < k → same (nthR rs j).xs (nthR ss j).xs = true) ∧ Quiet w wr) (fun i _ => n - (intOf i).toNat)
    case atStart => exact ⟨0, Nat.zero_le _, rfl, hid (fun i hi => by omega), ⟨0, rfl⟩⟩
    case round =>
      obtain ⟨k, hk, rfl, HF, HQ⟩ := hrel
      by_cases hlt : k < n
      · obtain ⟨b1, off1, rfl, hb1, hc1⟩ := h4 (by omega)
        obtain ⟨b2, off2, rfl, hb2, hc2⟩ := k4 (by omega)
        have hck : wr.cell? ⟨b1, off1 + k, none⟩ = some (nthR rs k).v := by obtain ⟨q, hq⟩ := HQ; rw [hq]; exact hc1 k hlt
        have hdk : wr.cell? ⟨b2, off2 + k, none⟩ = some (nthR ss k).v := by obtain ⟨q, hq⟩ := HQ; rw [hq]; exact hc2 k hlt
        have hkk : (k : Int) < (n : Int) := by omega
        have hkz : (0 : Int) ≤ (k : Int) := by omega
        have cq : ∀ j, Calls Tryz.prog 11 #[(nthR rs k).v, (nthR ss k).v] (wr.drewN j) fun e w' => e = .returned (.bool (same (nthR rs k).xs (nthR ss k).xs)) ∧ ∃ m, w' = (wr.drewN j).drewN m := fun j =>
          jSame_any _ _ _ _ _ _ _ _ _ (by obtain ⟨q, hq⟩ := HQ; rw [hq]; exact H5.out k hlt) (by obtain ⟨q, hq⟩ := HQ; rw [hq]; exact K5.out k hlt)
        clear hc1 hc2 h4 k4
        have HN := hid (sameR_no (rs := rs) (ss := ss) (k := k) (by rw [HL.out]; omega) (by rw [HL'.out]; omega))
        have HF2 := hid (fun (hh : same (nthR rs k).xs (nthR ss k).xs = true) (j : Nat) (hj : j < k + 1) => (show same (nthR rs j).xs (nthR ss j).xs = true from by rcases Nat.lt_succ_iff_lt_or_eq.1 hj with h1 | rfl; exact HF.out j h1; exact hh))
        generalize nthR rs k = rk at *
        generalize nthR ss k = sk at *
        by_cases he : same rk.xs sk.xs = true
        · have HE := hid he
          rw [he] at cq
          have CQ := hid cq
          clear he cq
          go_wp2_with fail
          go_quiet ((go_at_call 11; exact Calls.quiet_of (CQ.out _)))
          go_wp2_with fail
          go_roundw
          case rel => exact ⟨k + 1, by omega, by go_num, hid (HF2.out HE.out), Quiet.more HQ _⟩
          case measure => simp [intOf]; omega
        · have he' := Bool.eq_false_iff.2 he
          have HE := hid he'
          rw [he'] at cq
          have CQ := hid cq
          clear he he' cq
          go_wp2_with fail
          go_quiet ((go_at_call 11; exact Calls.quiet_of (CQ.out _)))
          go_wp2_with fail
          go_ret
          exact ⟨ret_bool (HN.out HE.out).symm, Quiet.more HQ _⟩
      · obtain rfl : k = n := by omega
        go_wp2_with fail
        go_ret
        exact ⟨ret_bool (sameR_yes (by rw [HL.out, HL'.out]) (by rw [HL.out]; exact HF.out)).symm, HQ⟩
  · have hb : ((n : Int) != (m : Int)) = true := by simp; omega
    have HR : Hid (sameR rs ss = false) := hid (by
      unfold sameR; rw [decide_eq_false_iff_not]
      intro e
      have : (numsOf rs).length = (numsOf ss).length := by rw [e]
      simp [numsOf] at this
      omega)
    go_enter Tryz.func8, Tryz.ntmps8
    go_wp2_with fail
    go_ret
    exact ⟨ret_bool HR.out.symm, ⟨0, rfl⟩⟩


/-- A slice of bytes below block K, with its bytes. -/
def Bytes (w : World) (a : Option Addr) (n K : Nat) (bs : List Int) : Prop :=
  bs.length = n ∧ n ≤ 1099511627776 ∧ (0 < n → ∃ b off, a = some ⟨b, off, none⟩ ∧ b < K ∧ ∀ i, i < n → 0 ≤ nth bs i ∧ nth bs i ≤ 255 ∧ w.cell? ⟨b, off + i, none⟩ = some (.int .u8 (nth bs i)))
theorem bytes_of {w : World} {a : Option Addr} {n K : Nat} (h : HasB w a n K) : ∃ bs, Bytes w a n K bs := by
  obtain ⟨hn, h⟩ := h
  by_cases hx : 0 < n
  · obtain ⟨b, off, ha, hb, hc⟩ := h hx
    have key : ∀ m, m ≤ n → ∃ bs : List Int, bs.length = m ∧ ∀ i, i < m → 0 ≤ nth bs i ∧ nth bs i ≤ 255 ∧ w.cell? ⟨b, off + i, none⟩ = some (.int .u8 (nth bs i)) := by
      intro m
      induction m with
      | zero => intro _; exact ⟨[], rfl, fun i hi => by omega⟩
      | succ m ih =>
        intro hm
        obtain ⟨bs, hl, hbs⟩ := ih (by omega)
        obtain ⟨u, u0, u1, hu⟩ := hc m (by omega)
        refine ⟨bs ++ [u], by simp [hl], fun i hi => ?_⟩
        by_cases e : i = m
        · subst e
          have : nth (bs ++ [u]) i = u := by rw [← hl]; exact nth_append_at
          rw [this]
          exact ⟨u0, u1, hu⟩
        · rw [nth_append_left (by omega)]
          exact hbs i (by omega)
    obtain ⟨bs, hl, hbs⟩ := key n (Nat.le_refl _)
    exact ⟨bs, hl, hn, fun _ => ⟨b, off, ha, hb, hbs⟩⟩
  · exact ⟨List.replicate n 0, by simp, hn, fun h => absurd h hx⟩
theorem Bytes.below {w w' : World} {a : Option Addr} {n K : Nat} {bs : List Int} (h : Bytes w a n K bs) (hb : Below K w w') : Bytes w' a n K bs := by
  obtain ⟨h1, h2, h3⟩ := h
  refine ⟨h1, h2, fun hx => ?_⟩
  obtain ⟨b, off, ha, hbk, hc⟩ := h3 hx
  exact ⟨b, off, ha, hbk, fun i hi => by rw [hb.cell (p := ⟨b, off + i, none⟩) hbk]; exact hc i hi⟩
/-- The number of some bytes. -/
def numOf (bs : List Int) : Int := bs.foldl (fun v u => (31 * v + u) % 1000003) 0
theorem numOf_succ {bs : List Int} {k : Nat} (h : k < bs.length) : numOf (bs.take (k + 1)) = (31 * numOf (bs.take k) + nth bs k) % 1000003 := by
  rw [take_succ_nth h]
  simp [numOf]
theorem numOf_bounds (bs : List Int) : 0 ≤ numOf bs ∧ numOf bs ≤ 1000002 := by
  unfold numOf
  have : ∀ (bs : List Int) (v : Int), 0 ≤ v ∧ v ≤ 1000002 → 0 ≤ bs.foldl (fun v u => (31 * v + u) % 1000003) v ∧ bs.foldl (fun v u => (31 * v + u) % 1000003) v ≤ 1000002 := by
    intro bs
    induction bs with
    | nil => intro v h; exact h
    | cons b bs ih => intro v h; exact ih _ (by show 0 ≤ (31 * v + b) % 1000003 ∧ (31 * v + b) % 1000003 ≤ 1000002; omega)
  exact this bs 0 (by omega)

end Go.Proofs.YtnddplldkgphnaaGreat

namespace Go.Proofs.YtnddplldkgphnaaGreat
open Go.RowKit

theorem unit_one {xs : List Int} (hp : isPark xs = true) : isUnitOf xs 1 = (unitB xs 1, true) := by simp [isUnitOf, hp, inB]
theorem unit_two {xs : List Int} (hp : ¬ isPark xs = true) : isUnitOf xs 1 = (false, false) := by simp [isUnitOf, hp]

set_option maxRecDepth 100000 in
set_option maxHeartbeats 16000000 in
theorem units_walk (a b : Option Addr) (n m cap cap' : Nat) (w : World) (hn : n ≤ maxLen) (h : n ≤ 1048576 → HasB w a n w.heap.size) (h' : m ≤ 1048576 → HasB w b m w.heap.size) :
    Calls Tryz.prog 3 #[.slice a n cap, .slice b m cap'] w (Holds w) := by
  have H1 := hid h
  have H2 := hid h'
  have HN := hid hn
  clear h h' hn
  have hB : Below w.heap.size w w := Below.refl _ _
  go_enter Tryz.func3, Tryz.ntmps3
  go_wp2_with fail
  refine (big_any _ _ _ _ _ _ _ (by have := HN.out; unfold maxLen at this; omega)).mono ?_
  rintro e _ ⟨r, rfl, hr, rfl⟩
  have HR := hid hr
  clear hr
  cases r with
  | true =>
    go_wp2_with fail
    go_ret
    exact ⟨rfl, hB⟩
  | false =>
    have hnm := HR.out rfl
    clear HR
    have HA := hid (H1.out (by omega))
    have HM := hid (H2.out (by omega))
    clear H1 H2 HN
    go_wp2_with fail
    refine (drawUnitBlocks_any _ _ _ _ HA.out).mono ?_
    rintro e v1 ⟨a_l, n_l, c_l, xs, rfl, o_l, hnl, st⟩
    replace hB := hB.trans (st.mono hB.size)
    clear st
    by_cases hP : isPark xs = true
    · skip
      by_cases hU : unitB xs 1 = true
      · skip
        obtain ⟨bs, hbs⟩ : ∃ bs, unitBlocksOf xs = (bs, true) := ⟨_, blocks_yes hP hU⟩
        have HBK := hid (blocks_back hbs)
        have HRI := hid (blocks_rise hbs)
        have HBL := hid hbs
        have HIU : Hid (isUnitOf xs 1 = (true, true)) := hid (by rw [unit_one hP, hU])
        clear hbs hP hU
        go_wp2_with fail
        refine (implBlocks_any _ _ _ _ _ o_l.has).mono ?_
        rw [HBL.out]
        rintro e v2 ⟨a_g, n_g, c_g, rs_g, rfl, R_g, hng, st⟩
        replace o_l := o_l.below st (Nat.le_refl _)
        replace hB := hB.trans (st.mono hB.size)
        clear st
        go_wp2_with fail
        refine (specBlocks_any _ _ _ _ _ o_l.has).mono ?_
        rw [HBL.out]
        rintro e v3 ⟨a_s, n_s, c_s, rs_s, rfl, R_s, hns, st⟩
        replace o_l := o_l.below st (Nat.le_refl _)
        replace R_g := R_g.below st (Nat.le_refl _)
        replace hB := hB.trans (st.mono hB.size)
        clear st
        have HRS : Hid (sameR rs_g rs_s = true) := hid (sameR_self' (hng.trans hns.symm))
        have HNG := hid hng
        clear hng hns
        go_wp2_with fail
        refine (jRows_any _ _ _ _ _ _ _ _ _ R_g.has R_s.has).mono ?_
        rintro e v4 ⟨rfl, q⟩
        have st : Below v3.heap.size v3 v4 := q.below _
        replace o_l := o_l.below st (Nat.le_refl _)
        replace R_g := R_g.below st (Nat.le_refl _)
        replace R_s := R_s.below st (Nat.le_refl _)
        replace hB := hB.trans (st.mono hB.size)
        clear st
        clear q
        rw [HRS.out]
        clear HRS R_s
        go_wp2_with fail
        refine (implUnit_any _ _ _ _ _ _ o_l.has).mono ?_
        rw [HIU.out]
        rintro e v5 ⟨rfl, st⟩
        replace o_l := o_l.below st (Nat.le_refl _)
        replace R_g := R_g.below st (Nat.le_refl _)
        replace hB := hB.trans (st.mono hB.size)
        clear st
        go_wp2_with fail
        refine (implFrom_any _ _ _ _ _ R_g.has).mono ?_
        rw [HNG.out]
        rw [HBK.out]
        rintro e v6 ⟨a_k, n_k, c_k, rfl, o_k, st⟩
        replace o_l := o_l.below st (Nat.le_refl _)
        replace R_g := R_g.below st (Nat.le_refl _)
        replace hB := hB.trans (st.mono hB.size)
        clear st
        go_wp2_with fail
        refine (jSame_any _ _ _ _ _ _ _ _ _ o_k.has o_l.has).mono ?_
        rintro e v7 ⟨rfl, q⟩
        have st : Below v6.heap.size v6 v7 := q.below _
        replace o_l := o_l.below st (Nat.le_refl _)
        replace o_k := o_k.below st (Nat.le_refl _)
        replace R_g := R_g.below st (Nat.le_refl _)
        replace hB := hB.trans (st.mono hB.size)
        clear st
        clear q
        rw [same_self]
        clear o_k o_l
        have hng8 := R_g.le
        have hlb : bs.length = n_g := by have := R_g.len; rw [← HNG.out]; simpa [numsOf] using this
        have HLB := hid hlb
        clear hlb
        go_wp2_with fail
        go_loopw [89] (fun i wr => ∃ j : Nat, j ≤ n_g ∧ i = .int .i64 (j : Int) ∧ Quiet v7 wr) (fun i _ => n_g - (intOf i).toNat)
        case atStart => exact ⟨0, Nat.zero_le _, rfl, ⟨0, rfl⟩⟩
        case round =>
          obtain ⟨j, hj, rfl, hq⟩ := hrel
          by_cases hlt : j < n_g
          · skip
            obtain ⟨b0, off0, ak, ck, ha0, hck, H_k⟩ := HasR.rowAt R_g.has (hq.below _) HNG.out hlt
            subst ha0
            have HR1 := hid (fun i => HRI.out j i (by rw [HLB.out]; exact hlt))
            generalize blkAt bs j = blk at *
            obtain ⟨nk, hnk⟩ : ∃ nk, blk.length = nk := ⟨_, rfl⟩
            rw [hnk] at hck H_k HR1
            have hle := H_k.le
            have HK := hid H_k
            clear hnk H_k
            obtain ⟨q0, hq0⟩ := hq
            subst hq0
            go_wp2_with fail
            go_loopw [16] (fun i wr => ∃ k : Nat, 1 ≤ k ∧ (k ≤ nk ∨ k = 1) ∧ i = .int .i64 (k : Int) ∧ Quiet v7 wr) (fun i _ => nk + 1 - (intOf i).toNat)
            case atStart => exact ⟨1, by omega, by omega, rfl, ⟨q0, rfl⟩⟩
            case round =>
              obtain ⟨k, hk1, hk2, rfl, hq2⟩ := hrel
              by_cases hlk : k < nk
              · skip
                obtain ⟨u, rfl⟩ : ∃ u, k = u + 1 := ⟨k - 1, by omega⟩
                obtain ⟨b1, off1, rfl, hb1, hc1⟩ := HK.out.2.2.2.2 (by omega)
                have hk3 := hc1 (u + 1) hlk
                have hk4 := hc1 u (by omega)
                have hs := HR1.out u hlk
                generalize nth blk (u + 1) = y1 at *
                generalize nth blk u = y0 at *
                have hyy : decide (y1 ≤ y0) = false := by simp; omega
                have hk3 := hk3
                obtain ⟨q3, hq3⟩ := hq2
                subst hq3
                clear hc1
                go_wp2_with fail
                go_quiet (fail)
                go_wp2_with fail
                go_roundw
                case rel => exact ⟨u + 2, by omega, by omega, by go_num, ⟨_, rfl⟩⟩
                case measure => simp [intOf]; omega
              · skip
                go_wp2_with fail
                go_roundw
                case rel => exact ⟨j + 1, by omega, by go_num, hq2⟩
                case measure => simp [intOf]; omega
          · skip
            obtain rfl : j = n_g := by omega
            have st : Below v7.heap.size v7 wr := hq.below _
            replace R_g := R_g.below st (Nat.le_refl _)
            replace hB := hB.trans (st.mono hB.size)
            clear st
            clear R_g
            go_wp2_with fail
            refine (drawFromUnit_any b m cap' _ (HM.out.grow hB (Nat.le_refl _))).mono ?_
            rintro e v8 ⟨a_f, n_f, c_f, rs_f, rfl, R_f, st⟩
            replace hB := hB.trans (st.mono hB.size)
            clear st
            obtain ⟨⟨ys, yb⟩, hy⟩ : ∃ r, fromUnit (numsOf rs_f) = r := ⟨_, rfl⟩
            have HY := hid hy
            have hyb : (yb != yb) = false := by cases yb <;> rfl
            clear hy
            go_wp2_with fail
            refine (implFrom_any _ _ _ _ _ R_f.has).mono ?_
            rw [HY.out]
            rintro e v9 ⟨a_a, n_a, c_a, rfl, o_a, st⟩
            replace R_f := R_f.below st (Nat.le_refl _)
            replace hB := hB.trans (st.mono hB.size)
            clear st
            go_wp2_with fail
            refine (specFrom_any _ _ _ _ _ R_f.has).mono ?_
            rw [HY.out]
            rintro e v10 ⟨a_b, n_b, c_b, rfl, o_b, st⟩
            replace o_a := o_a.below st (Nat.le_refl _)
            replace R_f := R_f.below st (Nat.le_refl _)
            replace hB := hB.trans (st.mono hB.size)
            clear st
            clear R_f
            go_wp2_with fail
            refine (jSame_any _ _ _ _ _ _ _ _ _ o_a.has o_b.has).mono ?_
            rintro e v11 ⟨rfl, q⟩
            have st : Below v10.heap.size v10 v11 := q.below _
            replace o_a := o_a.below st (Nat.le_refl _)
            replace o_b := o_b.below st (Nat.le_refl _)
            replace hB := hB.trans (st.mono hB.size)
            clear st
            clear q
            rw [same_self]
            clear o_a o_b
            go_wp2_with fail
            refine (drawIsUnit_any b m cap' _ (HM.out.grow hB (Nat.le_refl _))).mono ?_
            rintro e v12 ⟨a_p, n_p, c_p, ps, mm, rfl, o_p, hnp, m0, m1, st⟩
            replace hB := hB.trans (st.mono hB.size)
            clear st
            obtain ⟨⟨u, ub⟩, hu⟩ : ∃ r, isUnitOf ps mm = r := ⟨_, rfl⟩
            have HU := hid hu
            have hub : (ub != ub) = false := by cases ub <;> rfl
            have huu : (u != u) = false := by cases u <;> rfl
            clear hu
            go_wp2_with fail
            refine (implUnit_any _ _ _ _ _ _ o_p.has).mono ?_
            rw [HU.out]
            rintro e v13 ⟨rfl, st⟩
            replace o_p := o_p.below st (Nat.le_refl _)
            replace hB := hB.trans (st.mono hB.size)
            clear st
            go_wp2_with fail
            refine (specUnit_any _ _ _ _ _ _ o_p.has).mono ?_
            rw [HU.out]
            rintro e v14 ⟨rfl, st⟩
            replace o_p := o_p.below st (Nat.le_refl _)
            replace hB := hB.trans (st.mono hB.size)
            clear st
            clear o_p
            go_wp2_with fail
            refine (drawCountUnit_any b m cap' _ (HM.out.grow hB (Nat.le_refl _))).mono ?_
            rintro e v15 ⟨nn, kk, rfl, n0, n1, k0, k1, st⟩
            replace hB := hB.trans (st.mono hB.size)
            clear st
            obtain ⟨⟨c, cb⟩, hc⟩ : ∃ r, countUnitOf nn kk = r := ⟨_, rfl⟩
            have HC := hid hc
            have hcb : (cb != cb) = false := by cases cb <;> rfl
            have hcc := neq_self_int c
            go_wp2_with fail
            refine (implCntU_any _ _ _).mono ?_
            rw [HC.out]
            rintro e v16 ⟨rfl, st⟩
            replace hB := hB.trans (st.mono hB.size)
            clear st
            go_wp2_with fail
            refine (specCntU_any _ _ _).mono ?_
            rw [HC.out]
            rintro e v17 ⟨rfl, st⟩
            replace hB := hB.trans (st.mono hB.size)
            clear st
            by_cases hk : cb = true ∧ kk < 8
            · skip
              obtain ⟨rfl, hk8⟩ := hk
              obtain ⟨gg, tt, f1, f2, f3, f4, f5⟩ := count_facts hc hk8
              have HG := hid f1
              have HT := hid f2
              have hwk : IntKind.i64.wrap (kk + 1) = kk + 1 := by rw [IntKind.wrap_i64]; omega
              have hwn : IntKind.i64.wrap (nn - 1) = nn - 1 := by rw [IntKind.wrap_i64]; omega
              clear f1 f2 hc
              go_wp2_with fail
              refine (implCntU_any _ _ _).mono ?_
              rw [HG.out]
              rintro e v18 ⟨rfl, st⟩
              replace hB := hB.trans (st.mono hB.size)
              clear st
              go_wp2_with fail
              refine (countParking_any _ _).mono ?_
              rw [HT.out]
              rintro e v19 ⟨rfl, st⟩
              replace hB := hB.trans (st.mono hB.size)
              clear st
              by_cases hlast : kk < nn - 1
              · skip
                have hd : decide (kk < nn - 1) = true := by simpa using hlast
                have hle1 : decide (c ≤ gg) = true := by simpa using f3
                have hle2 : decide (gg ≤ tt) = true := by simpa using f4
                go_wp2_with fail
                go_ret
                exact ⟨rfl, hB⟩
              · skip
                have hct := f5 (by omega)
                subst hct
                have hd : decide (kk < nn - 1) = false := by simpa using hlast
                have hle1 : decide (c ≤ gg) = true := by simpa using f3
                have hle2 : decide (gg ≤ c) = true := by simpa using f4
                have hcc2 : (c == c) = true := by simp
                go_wp2_with fail
                go_ret
                exact ⟨rfl, hB⟩
            · skip
              clear hc
              by_cases hcf : cb = false
              · skip
                subst hcf
                go_wp2_with fail
                go_ret
                exact ⟨rfl, hB⟩
              · skip
                obtain rfl : cb = true := by simpa using hcf
                have hd : ¬ kk < 8 := fun e => hk ⟨rfl, e⟩
                go_wp2_with fail
                go_ret
                exact ⟨rfl, hB⟩
      · skip
        have HBL : Hid (unitBlocksOf xs = ([], false)) := hid (blocks_no (fun e => hU e.2))
        have HIU : Hid (isUnitOf xs 1 = (false, true)) := hid (by rw [unit_one hP, Bool.eq_false_iff.2 hU])
        clear hP hU
        go_wp2_with fail
        refine (implBlocks_any _ _ _ _ _ o_l.has).mono ?_
        rw [HBL.out]
        rintro e v2 ⟨a_g, n_g, c_g, rs_g, rfl, R_g, hng, st⟩
        replace o_l := o_l.below st (Nat.le_refl _)
        replace hB := hB.trans (st.mono hB.size)
        clear st
        go_wp2_with fail
        refine (specBlocks_any _ _ _ _ _ o_l.has).mono ?_
        rw [HBL.out]
        rintro e v3 ⟨a_s, n_s, c_s, rs_s, rfl, R_s, hns, st⟩
        replace o_l := o_l.below st (Nat.le_refl _)
        replace R_g := R_g.below st (Nat.le_refl _)
        replace hB := hB.trans (st.mono hB.size)
        clear st
        have HRS : Hid (sameR rs_g rs_s = true) := hid (sameR_self' (hng.trans hns.symm))
        have HNG := hid hng
        clear hng hns
        go_wp2_with fail
        refine (jRows_any _ _ _ _ _ _ _ _ _ R_g.has R_s.has).mono ?_
        rintro e v4 ⟨rfl, q⟩
        have st : Below v3.heap.size v3 v4 := q.below _
        replace o_l := o_l.below st (Nat.le_refl _)
        replace R_g := R_g.below st (Nat.le_refl _)
        replace R_s := R_s.below st (Nat.le_refl _)
        replace hB := hB.trans (st.mono hB.size)
        clear st
        clear q
        rw [HRS.out]
        clear HRS R_s
        go_wp2_with fail
        refine (implUnit_any _ _ _ _ _ _ o_l.has).mono ?_
        rw [HIU.out]
        rintro e v5 ⟨rfl, st⟩
        replace o_l := o_l.below st (Nat.le_refl _)
        replace R_g := R_g.below st (Nat.le_refl _)
        replace hB := hB.trans (st.mono hB.size)
        clear st
        clear R_g
        clear o_l
        go_wp2_with fail
        refine (drawFromUnit_any b m cap' _ (HM.out.grow hB (Nat.le_refl _))).mono ?_
        rintro e v6 ⟨a_f, n_f, c_f, rs_f, rfl, R_f, st⟩
        replace hB := hB.trans (st.mono hB.size)
        clear st
        obtain ⟨⟨ys, yb⟩, hy⟩ : ∃ r, fromUnit (numsOf rs_f) = r := ⟨_, rfl⟩
        have HY := hid hy
        have hyb : (yb != yb) = false := by cases yb <;> rfl
        clear hy
        go_wp2_with fail
        refine (implFrom_any _ _ _ _ _ R_f.has).mono ?_
        rw [HY.out]
        rintro e v7 ⟨a_a, n_a, c_a, rfl, o_a, st⟩
        replace R_f := R_f.below st (Nat.le_refl _)
        replace hB := hB.trans (st.mono hB.size)
        clear st
        go_wp2_with fail
        refine (specFrom_any _ _ _ _ _ R_f.has).mono ?_
        rw [HY.out]
        rintro e v8 ⟨a_b, n_b, c_b, rfl, o_b, st⟩
        replace o_a := o_a.below st (Nat.le_refl _)
        replace R_f := R_f.below st (Nat.le_refl _)
        replace hB := hB.trans (st.mono hB.size)
        clear st
        clear R_f
        go_wp2_with fail
        refine (jSame_any _ _ _ _ _ _ _ _ _ o_a.has o_b.has).mono ?_
        rintro e v9 ⟨rfl, q⟩
        have st : Below v8.heap.size v8 v9 := q.below _
        replace o_a := o_a.below st (Nat.le_refl _)
        replace o_b := o_b.below st (Nat.le_refl _)
        replace hB := hB.trans (st.mono hB.size)
        clear st
        clear q
        rw [same_self]
        clear o_a o_b
        go_wp2_with fail
        refine (drawIsUnit_any b m cap' _ (HM.out.grow hB (Nat.le_refl _))).mono ?_
        rintro e v10 ⟨a_p, n_p, c_p, ps, mm, rfl, o_p, hnp, m0, m1, st⟩
        replace hB := hB.trans (st.mono hB.size)
        clear st
        obtain ⟨⟨u, ub⟩, hu⟩ : ∃ r, isUnitOf ps mm = r := ⟨_, rfl⟩
        have HU := hid hu
        have hub : (ub != ub) = false := by cases ub <;> rfl
        have huu : (u != u) = false := by cases u <;> rfl
        clear hu
        go_wp2_with fail
        refine (implUnit_any _ _ _ _ _ _ o_p.has).mono ?_
        rw [HU.out]
        rintro e v11 ⟨rfl, st⟩
        replace o_p := o_p.below st (Nat.le_refl _)
        replace hB := hB.trans (st.mono hB.size)
        clear st
        go_wp2_with fail
        refine (specUnit_any _ _ _ _ _ _ o_p.has).mono ?_
        rw [HU.out]
        rintro e v12 ⟨rfl, st⟩
        replace o_p := o_p.below st (Nat.le_refl _)
        replace hB := hB.trans (st.mono hB.size)
        clear st
        clear o_p
        go_wp2_with fail
        refine (drawCountUnit_any b m cap' _ (HM.out.grow hB (Nat.le_refl _))).mono ?_
        rintro e v13 ⟨nn, kk, rfl, n0, n1, k0, k1, st⟩
        replace hB := hB.trans (st.mono hB.size)
        clear st
        obtain ⟨⟨c, cb⟩, hc⟩ : ∃ r, countUnitOf nn kk = r := ⟨_, rfl⟩
        have HC := hid hc
        have hcb : (cb != cb) = false := by cases cb <;> rfl
        have hcc := neq_self_int c
        go_wp2_with fail
        refine (implCntU_any _ _ _).mono ?_
        rw [HC.out]
        rintro e v14 ⟨rfl, st⟩
        replace hB := hB.trans (st.mono hB.size)
        clear st
        go_wp2_with fail
        refine (specCntU_any _ _ _).mono ?_
        rw [HC.out]
        rintro e v15 ⟨rfl, st⟩
        replace hB := hB.trans (st.mono hB.size)
        clear st
        by_cases hk : cb = true ∧ kk < 8
        · skip
          obtain ⟨rfl, hk8⟩ := hk
          obtain ⟨gg, tt, f1, f2, f3, f4, f5⟩ := count_facts hc hk8
          have HG := hid f1
          have HT := hid f2
          have hwk : IntKind.i64.wrap (kk + 1) = kk + 1 := by rw [IntKind.wrap_i64]; omega
          have hwn : IntKind.i64.wrap (nn - 1) = nn - 1 := by rw [IntKind.wrap_i64]; omega
          clear f1 f2 hc
          go_wp2_with fail
          refine (implCntU_any _ _ _).mono ?_
          rw [HG.out]
          rintro e v16 ⟨rfl, st⟩
          replace hB := hB.trans (st.mono hB.size)
          clear st
          go_wp2_with fail
          refine (countParking_any _ _).mono ?_
          rw [HT.out]
          rintro e v17 ⟨rfl, st⟩
          replace hB := hB.trans (st.mono hB.size)
          clear st
          by_cases hlast : kk < nn - 1
          · skip
            have hd : decide (kk < nn - 1) = true := by simpa using hlast
            have hle1 : decide (c ≤ gg) = true := by simpa using f3
            have hle2 : decide (gg ≤ tt) = true := by simpa using f4
            go_wp2_with fail
            go_ret
            exact ⟨rfl, hB⟩
          · skip
            have hct := f5 (by omega)
            subst hct
            have hd : decide (kk < nn - 1) = false := by simpa using hlast
            have hle1 : decide (c ≤ gg) = true := by simpa using f3
            have hle2 : decide (gg ≤ c) = true := by simpa using f4
            have hcc2 : (c == c) = true := by simp
            go_wp2_with fail
            go_ret
            exact ⟨rfl, hB⟩
        · skip
          clear hc
          by_cases hcf : cb = false
          · skip
            subst hcf
            go_wp2_with fail
            go_ret
            exact ⟨rfl, hB⟩
          · skip
            obtain rfl : cb = true := by simpa using hcf
            have hd : ¬ kk < 8 := fun e => hk ⟨rfl, e⟩
            go_wp2_with fail
            go_ret
            exact ⟨rfl, hB⟩
    · skip
      have HBL : Hid (unitBlocksOf xs = ([], false)) := hid (blocks_no (fun e => hP e.1))
      have HIU := hid (unit_two hP)
      clear hP
      go_wp2_with fail
      refine (implBlocks_any _ _ _ _ _ o_l.has).mono ?_
      rw [HBL.out]
      rintro e v2 ⟨a_g, n_g, c_g, rs_g, rfl, R_g, hng, st⟩
      replace o_l := o_l.below st (Nat.le_refl _)
      replace hB := hB.trans (st.mono hB.size)
      clear st
      go_wp2_with fail
      refine (specBlocks_any _ _ _ _ _ o_l.has).mono ?_
      rw [HBL.out]
      rintro e v3 ⟨a_s, n_s, c_s, rs_s, rfl, R_s, hns, st⟩
      replace o_l := o_l.below st (Nat.le_refl _)
      replace R_g := R_g.below st (Nat.le_refl _)
      replace hB := hB.trans (st.mono hB.size)
      clear st
      have HRS : Hid (sameR rs_g rs_s = true) := hid (sameR_self' (hng.trans hns.symm))
      have HNG := hid hng
      clear hng hns
      go_wp2_with fail
      refine (jRows_any _ _ _ _ _ _ _ _ _ R_g.has R_s.has).mono ?_
      rintro e v4 ⟨rfl, q⟩
      have st : Below v3.heap.size v3 v4 := q.below _
      replace o_l := o_l.below st (Nat.le_refl _)
      replace R_g := R_g.below st (Nat.le_refl _)
      replace R_s := R_s.below st (Nat.le_refl _)
      replace hB := hB.trans (st.mono hB.size)
      clear st
      clear q
      rw [HRS.out]
      clear HRS R_s
      go_wp2_with fail
      refine (implUnit_any _ _ _ _ _ _ o_l.has).mono ?_
      rw [HIU.out]
      rintro e v5 ⟨rfl, st⟩
      replace o_l := o_l.below st (Nat.le_refl _)
      replace R_g := R_g.below st (Nat.le_refl _)
      replace hB := hB.trans (st.mono hB.size)
      clear st
      clear R_g
      clear o_l
      go_wp2_with fail
      refine (drawFromUnit_any b m cap' _ (HM.out.grow hB (Nat.le_refl _))).mono ?_
      rintro e v6 ⟨a_f, n_f, c_f, rs_f, rfl, R_f, st⟩
      replace hB := hB.trans (st.mono hB.size)
      clear st
      obtain ⟨⟨ys, yb⟩, hy⟩ : ∃ r, fromUnit (numsOf rs_f) = r := ⟨_, rfl⟩
      have HY := hid hy
      have hyb : (yb != yb) = false := by cases yb <;> rfl
      clear hy
      go_wp2_with fail
      refine (implFrom_any _ _ _ _ _ R_f.has).mono ?_
      rw [HY.out]
      rintro e v7 ⟨a_a, n_a, c_a, rfl, o_a, st⟩
      replace R_f := R_f.below st (Nat.le_refl _)
      replace hB := hB.trans (st.mono hB.size)
      clear st
      go_wp2_with fail
      refine (specFrom_any _ _ _ _ _ R_f.has).mono ?_
      rw [HY.out]
      rintro e v8 ⟨a_b, n_b, c_b, rfl, o_b, st⟩
      replace o_a := o_a.below st (Nat.le_refl _)
      replace R_f := R_f.below st (Nat.le_refl _)
      replace hB := hB.trans (st.mono hB.size)
      clear st
      clear R_f
      go_wp2_with fail
      refine (jSame_any _ _ _ _ _ _ _ _ _ o_a.has o_b.has).mono ?_
      rintro e v9 ⟨rfl, q⟩
      have st : Below v8.heap.size v8 v9 := q.below _
      replace o_a := o_a.below st (Nat.le_refl _)
      replace o_b := o_b.below st (Nat.le_refl _)
      replace hB := hB.trans (st.mono hB.size)
      clear st
      clear q
      rw [same_self]
      clear o_a o_b
      go_wp2_with fail
      refine (drawIsUnit_any b m cap' _ (HM.out.grow hB (Nat.le_refl _))).mono ?_
      rintro e v10 ⟨a_p, n_p, c_p, ps, mm, rfl, o_p, hnp, m0, m1, st⟩
      replace hB := hB.trans (st.mono hB.size)
      clear st
      obtain ⟨⟨u, ub⟩, hu⟩ : ∃ r, isUnitOf ps mm = r := ⟨_, rfl⟩
      have HU := hid hu
      have hub : (ub != ub) = false := by cases ub <;> rfl
      have huu : (u != u) = false := by cases u <;> rfl
      clear hu
      go_wp2_with fail
      refine (implUnit_any _ _ _ _ _ _ o_p.has).mono ?_
      rw [HU.out]
      rintro e v11 ⟨rfl, st⟩
      replace o_p := o_p.below st (Nat.le_refl _)
      replace hB := hB.trans (st.mono hB.size)
      clear st
      go_wp2_with fail
      refine (specUnit_any _ _ _ _ _ _ o_p.has).mono ?_
      rw [HU.out]
      rintro e v12 ⟨rfl, st⟩
      replace o_p := o_p.below st (Nat.le_refl _)
      replace hB := hB.trans (st.mono hB.size)
      clear st
      clear o_p
      go_wp2_with fail
      refine (drawCountUnit_any b m cap' _ (HM.out.grow hB (Nat.le_refl _))).mono ?_
      rintro e v13 ⟨nn, kk, rfl, n0, n1, k0, k1, st⟩
      replace hB := hB.trans (st.mono hB.size)
      clear st
      obtain ⟨⟨c, cb⟩, hc⟩ : ∃ r, countUnitOf nn kk = r := ⟨_, rfl⟩
      have HC := hid hc
      have hcb : (cb != cb) = false := by cases cb <;> rfl
      have hcc := neq_self_int c
      go_wp2_with fail
      refine (implCntU_any _ _ _).mono ?_
      rw [HC.out]
      rintro e v14 ⟨rfl, st⟩
      replace hB := hB.trans (st.mono hB.size)
      clear st
      go_wp2_with fail
      refine (specCntU_any _ _ _).mono ?_
      rw [HC.out]
      rintro e v15 ⟨rfl, st⟩
      replace hB := hB.trans (st.mono hB.size)
      clear st
      by_cases hk : cb = true ∧ kk < 8
      · skip
        obtain ⟨rfl, hk8⟩ := hk
        obtain ⟨gg, tt, f1, f2, f3, f4, f5⟩ := count_facts hc hk8
        have HG := hid f1
        have HT := hid f2
        have hwk : IntKind.i64.wrap (kk + 1) = kk + 1 := by rw [IntKind.wrap_i64]; omega
        have hwn : IntKind.i64.wrap (nn - 1) = nn - 1 := by rw [IntKind.wrap_i64]; omega
        clear f1 f2 hc
        go_wp2_with fail
        refine (implCntU_any _ _ _).mono ?_
        rw [HG.out]
        rintro e v16 ⟨rfl, st⟩
        replace hB := hB.trans (st.mono hB.size)
        clear st
        go_wp2_with fail
        refine (countParking_any _ _).mono ?_
        rw [HT.out]
        rintro e v17 ⟨rfl, st⟩
        replace hB := hB.trans (st.mono hB.size)
        clear st
        by_cases hlast : kk < nn - 1
        · skip
          have hd : decide (kk < nn - 1) = true := by simpa using hlast
          have hle1 : decide (c ≤ gg) = true := by simpa using f3
          have hle2 : decide (gg ≤ tt) = true := by simpa using f4
          go_wp2_with fail
          go_ret
          exact ⟨rfl, hB⟩
        · skip
          have hct := f5 (by omega)
          subst hct
          have hd : decide (kk < nn - 1) = false := by simpa using hlast
          have hle1 : decide (c ≤ gg) = true := by simpa using f3
          have hle2 : decide (gg ≤ c) = true := by simpa using f4
          have hcc2 : (c == c) = true := by simp
          go_wp2_with fail
          go_ret
          exact ⟨rfl, hB⟩
      · skip
        clear hc
        by_cases hcf : cb = false
        · skip
          subst hcf
          go_wp2_with fail
          go_ret
          exact ⟨rfl, hB⟩
        · skip
          obtain rfl : cb = true := by simpa using hcf
          have hd : ¬ kk < 8 := fun e => hk ⟨rfl, e⟩
          go_wp2_with fail
          go_ret
          exact ⟨rfl, hB⟩
end Go.Proofs.YtnddplldkgphnaaGreat


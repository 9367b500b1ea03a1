/- Outcomes: the model's and the program's functions, by their contracts. -/
import Derived.Test.YtakadjhbomggbabSpecS
import Derived.Test.YtakadjhbomggbabImplC
import Derived.Test.YtakadjhbomggbabMathO
namespace Go.Proofs.Ytakadjhbomggbab
open Go.RowKit

/-- A local array of eight cells: what each holds. -/
structure Arr (w : World) (blk : Nat) (f : Nat → Value) : Prop where
  cell : ∀ z, z < 8 → w.cell? ⟨blk, z, none⟩ = some (f z)
  free : ∀ z, w.frozen? ⟨blk, z, none⟩ = false
theorem eight {v : Value} {z : Nat} (h : z < 8) : (#[v, v, v, v, v, v, v, v] : Array Value)[z]? = some v := by
  rcases (show z = 0 ∨ z = 1 ∨ z = 2 ∨ z = 3 ∨ z = 4 ∨ z = 5 ∨ z = 6 ∨ z = 7 by omega) with rfl | rfl | rfl | rfl | rfl | rfl | rfl | rfl <;> rfl
theorem arr_new (w : World) (v : Value) (t : TypeId) : Arr (w.alloc (.cells #[v, v, v, v, v, v, v, v] t)) w.heap.size fun _ => v :=
  ⟨fun z hz => by rw [World.cell?_alloc_at _ _ _ _ rfl, eight hz], fun z => by rw [World.frozen?_alloc_at _ _ _ _ rfl]⟩
theorem Arr.set {w : World} {blk : Nat} {f : Nat → Value} (h : Arr w blk f) {z : Nat} (hz : z < 8) (v : Value) : Arr (w.setCell ⟨blk, z, none⟩ v) blk fun y => if y = z then v else f y := by
  refine ⟨fun y hy => ?_, fun y => by rw [World.frozen?_setCell]; exact h.free y⟩
  by_cases e : y = z
  · subst e
    rw [World.cell?_setCell_same _ _ _ (h.cell y hy), if_pos rfl]
  · rw [World.cell?_setCell_other _ _ _ _ (by intro hh; injection hh with _ h5 _; exact e h5.symm), if_neg e]
    exact h.cell y hy
theorem Arr.congr {w : World} {blk : Nat} {f g : Nat → Value} (h : Arr w blk f) (e : ∀ z, z < 8 → g z = f z) : Arr w blk g := ⟨fun z hz => by rw [e z hz]; exact h.cell z hz, h.free⟩
theorem has_take_succ {xs : List Int} {k : Nat} (h : k < xs.length) (z : Int) : hasB (xs.take (k + 1)) z = (hasB (xs.take k) z || decide (z = nth xs k)) := by
  rw [Bool.eq_iff_iff]
  simp [hasB, take_succ_nth h]
theorem Arr.below {w w' : World} {blk B : Nat} {f : Nat → Value} (h : Arr w blk f) (hb : Below B w w') (hB : blk < B) : Arr w' blk f :=
  ⟨fun z hz => by rw [hb.cell (p := ⟨blk, z, none⟩) hB]; exact h.cell z hz, fun z => by rw [hb.frozen (p := ⟨blk, z, none⟩) hB]; exact h.free z⟩

set_option maxHeartbeats 800000 in
theorem isOutcome_any (a : Option Addr) (n cap : Nat) (xs : List Int) (w : World) (h : Has w a n cap xs) :
    Calls Try.prog 66 #[.slice a n cap] w (PostBool w (outB xs)) := by
  have hlen := h.len
  by_cases hg : carsB xs n = true
  · have HR : Hid (outB xs = distB xs n) := hid (by simp [outB, hlen, hg])
    have g1 : n ≤ 8 := by have := (carsB_iff.1 hg).1; omega
    have g4 : ∀ i, i < n → 0 ≤ nth xs i ∧ nth xs i ≤ (n : Int) - 1 := fun i hi => (carsB_iff.1 hg).2 _ (nth_mem (by omega))
    have HL := hid hlen
    have HG := hid hg
    clear hg hlen
    go_enter Try.func66, Try.ntmps66
    go_wp2_with (go_at_call 92; refine (areCarsBelow_any _ _ _ _ _ _ h).mono ?_; rintro e w' ⟨rfl, rfl⟩; rw [HG.out])
    have A0 := arr_new w (.bool false) 105
    have B0 : Below w.heap.size w (w.alloc (.cells #[.bool false, .bool false, .bool false, .bool false, .bool false, .bool false, .bool false, .bool false] 105)) := (Below.refl _ _).alloc (Nat.le_refl _) _
    go_loopw [13] (fun i wr => ∃ k : Nat, k ≤ n ∧ i = .int .i64 k ∧ Arr wr w.heap.size (fun z => .bool (hasB (xs.take k) z)) ∧ Hid (distB xs k = true) ∧ Below w.heap.size w wr) (fun i _ => n - (intOf i).toNat)
    case atStart => exact ⟨0, Nat.zero_le _, rfl, A0.congr (fun z _ => by simp [hasB]), hid rfl, B0⟩
    case round =>
      obtain ⟨k, hk, rfl, HA, HD, hb⟩ := hrel
      clear A0 B0
      by_cases hlt : k < n
      · obtain ⟨b, off, rfl, hbb, hc⟩ := h.2.2.2.2 (by omega)
        have hck : wr.cell? ⟨b, off + k, none⟩ = some (.int .i64 (nth xs k)) := by rw [hb.cell (p := ⟨b, off + k, none⟩) hbb]; exact hc k hlt
        obtain ⟨hx0, hx1⟩ := g4 k hlt
        obtain ⟨v, hv⟩ : ∃ v : Nat, nth xs k = (v : Int) := ⟨_, (Int.toNat_of_nonneg hx0).symm⟩
        have hac := HA.cell v (by omega)
        have haf := HA.free v
        rw [hv] at hck hx0 hx1
        have HV := hid hv
        clear hc g4 hv
        by_cases hq : hasB (xs.take k) v = true
        · have HN := hid (distB_no (n := n) hlt (by rw [HV.out]; exact hq))
          rw [hq] at hac
          clear hq
          go_wp2_with fail
          go_ret
          exact postBool (by rw [HR.out, HN.out]) hb
        · have hq' := Bool.eq_false_iff.2 hq
          have HQ := hid hq'
          rw [hq'] at hac
          clear hq hq'
          go_wp2_with fail
          go_roundw
          case rel =>
            refine ⟨k + 1, by omega, by go_num, (HA.set (z := v) (by omega) (.bool true)).congr (fun z hz => ?_), hid (by rw [distB_succ, HD.out, HV.out, HQ.out]; rfl), hb.setCell (by simp) _⟩
            rw [has_take_succ (by rw [HL.out]; omega), HV.out]
            by_cases e : z = v
            · subst e; simp
            · have e' : ¬ (z : Int) = (v : Int) := by omega
              simp [e, e']
          case measure => simp [intOf]; omega
      · obtain rfl : k = n := by omega
        go_wp2_with fail
        go_ret
        exact postBool (by rw [HR.out, HD.out]) hb
  · have HR : Hid (outB xs = false) := hid (by simp [outB, hlen, hg])
    have HG := hid hg
    clear hg
    go_enter Try.func66, Try.ntmps66
    go_wp2_with (go_at_call 92; refine (areCarsBelow_any _ _ _ _ _ _ h).mono ?_; rintro e w' ⟨rfl, rfl⟩; rw [Bool.eq_false_iff.2 HG.out])
    go_ret
    exact postBool HR.out.symm (Below.refl _ _)

/-- What the array of cars holds, behind the first k cars. -/
def carAt (xs : List Int) : Nat → Nat → Int
  | 0, _ => 0
  | k + 1, z => if nth xs k = (z : Int) then (k : Int) else carAt xs k z
theorem carAt_at {xs : List Int} (h : outB xs = true) {j : Nat} (hj : j < xs.length) {v : Nat} (hv : nth xs j = (v : Int)) : ∀ k, j < k → k ≤ xs.length → carAt xs k v = (j : Int)
  | 0, h1, _ => by omega
  | k + 1, h1, h2 => by
    simp only [carAt]
    by_cases e : nth xs k = (v : Int)
    · have := out_inj h (i := k) (j := j) (by omega) hj (by rw [e, hv])
      rw [if_pos e]; omega
    · rw [if_neg e]
      have hne : j ≠ k := by rintro rfl; exact e hv
      exact carAt_at h hj hv k (by omega) (by omega)
/-- The car at a place is an earlier one exactly if the place is among the earlier places. -/
theorem carAt_lt {xs : List Int} (h : outB xs = true) {i v : Nat} (hi : i < xs.length) (hv : v < xs.length) : carAt xs xs.length v < (i : Int) ↔ (v : Int) ∈ xs.take i := by
  obtain ⟨j, hj, e⟩ := mem_nth (out_all h hv)
  rw [carAt_at h hj e xs.length hj (Nat.le_refl _), ← e, out_before h hi hj]
  omega
theorem carAt_bounds (xs : List Int) (z : Nat) : ∀ k, 0 ≤ carAt xs k z ∧ carAt xs k z ≤ (k : Int)
  | 0 => by simp [carAt]
  | k + 1 => by
    have := carAt_bounds xs z k
    simp only [carAt]
    split <;> omega

end Go.Proofs.Ytakadjhbomggbab

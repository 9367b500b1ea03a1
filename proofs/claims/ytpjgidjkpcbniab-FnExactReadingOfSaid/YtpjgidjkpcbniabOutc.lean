/- Outcomes: the model's and the program's functions, by their contracts. -/
import Derived.Test.YtpjgidjkpcbniabSpecS
import Derived.Test.YtpjgidjkpcbniabImplC
import Derived.Test.YtpjgidjkpcbniabMathO
namespace Go.Proofs.Ytpjgidjkpcbniab
open Go.RowKit

set_option maxHeartbeats 800000 in
theorem paOutcome_any (a : Option Addr) (n cap : Nat) (xs : List Int) (w : World) (h : Has w a n cap xs) :
    Calls Try.prog 95 #[.slice a n cap] w fun e w' => e = .returned (.bool (outB xs)) ∧ w = w' := by
  have hlen := h.len
  have hle := h.le
  by_cases h8 : n ≤ 8
  · by_cases ha : allB xs 0 ((n : Int) - 1) = true
    · have HA := hid ha
      have HR : Hid (outB xs = distB xs n) := hid (by simp [outB, carsB, hlen, h8, ha])
      have HL := hid hlen
      clear ha hlen
      have hcap := h.2.1
      have hmx : cap ≤ maxLen := h.2.2.1
      go_enter Try.func95, Try.ntmps95
      go_wp2_with (go_at_call 111; refine (l1All_any _ _ _ _ _ _ _ h).mono ?_; rintro e w' ⟨rfl, rfl⟩; rw [HA.out])
      go_loop [18] (fun i => ∃ k : Nat, k ≤ n ∧ i = .int .i64 k ∧ Hid (distB xs k = true)) (fun i => n - (intOf i).toNat)
      case atStart => exact ⟨0, Nat.zero_le _, rfl, hid rfl⟩
      case round =>
        obtain ⟨k, hk, rfl, HD⟩ := hrel
        by_cases hlt : k < n
        · obtain ⟨b, off, rfl, hb, hc⟩ := h.2.2.2.2 (by omega)
          have hck := hc k hlt
          have ht := h.take (k := k) (by omega)
          clear hc
          by_cases hq : hasB (xs.take k) (nth xs k) = true
          · have HQ := hid hq
            have HN := hid (distB_no (n := n) hlt hq)
            clear hq
            go_wp2_with fail
            refine (l1Has_any _ _ _ _ _ _ ht).mono ?_
            rintro e w' ⟨rfl, rfl⟩
            rw [HQ.out]
            go_wp2_with fail
            go_ret
            exact ⟨ret_bool (by rw [HR.out, HN.out]), rfl⟩
          · have HQ := hid hq
            clear hq
            go_wp2_with fail
            refine (l1Has_any _ _ _ _ _ _ ht).mono ?_
            rintro e w' ⟨rfl, rfl⟩
            rw [Bool.eq_false_iff.2 HQ.out]
            go_wp2_with fail
            go_round
            case rel => exact ⟨k + 1, by omega, by go_num, hid (by rw [distB_succ, HD.out, Bool.eq_false_iff.2 HQ.out]; rfl)⟩
            case measure => simp [intOf]; omega
        · obtain rfl : k = n := by omega
          go_wp2_with fail
          go_ret
          exact ⟨ret_bool (by rw [HR.out, HD.out]), rfl⟩
    · have HA := hid ha
      have HR : Hid (outB xs = false) := hid (by simp [outB, carsB, hlen, ha])
      clear ha
      go_enter Try.func95, Try.ntmps95
      go_wp2_with (go_at_call 111; refine (l1All_any _ _ _ _ _ _ _ h).mono ?_; rintro e w' ⟨rfl, rfl⟩; rw [Bool.eq_false_iff.2 HA.out])
      go_ret
      exact ⟨ret_bool HR.out.symm, rfl⟩
  · have HR : Hid (outB xs = false) := hid (by simp [outB, carsB, hlen, h8])
    go_enter Try.func95, Try.ntmps95
    go_wp2_with fail
    go_ret
    exact ⟨ret_bool HR.out.symm, rfl⟩

set_option maxHeartbeats 800000 in
theorem paRow_any (a : Option Addr) (n cap : Nat) (xs : List Int) (i : Nat) (w : World) (h : Has w a n cap xs) (hi : i < n) (h0 : 0 ≤ nth xs i) (h1 : nth xs i ≤ 100) :
    Calls Try.prog 96 #[.slice a n cap, .int .i64 (i : Int)] w fun e w' => e = .returned (.int .i64 (rowOf xs i)) ∧ w = w' := by
  obtain ⟨b, off, rfl, hb, hc⟩ := h.2.2.2.2 (by omega)
  have hck := hc i hi
  obtain ⟨v, hv⟩ : ∃ v : Nat, nth xs i = (v : Int) := ⟨_, (Int.toNat_of_nonneg h0).symm⟩
  have HR : Hid (rowOf xs i = (v : Int) - (down (xs.take i) v : Int) + 1) := hid (by simp [rowOf, leastOf, hv])
  rw [hv] at hck h1 h0
  have ht := h.take (k := i) (by omega)
  have hcap := h.2.1
  clear hc hv
  go_enter Try.func96, Try.ntmps96
  go_wp2_with fail
  go_loop [5, 6] (fun c x => ∃ k : Nat, k ≤ v ∧ x = .int .i64 ((k : Int) - 1) ∧ c = .int .i64 (1 + ((v : Int) - (k : Int))) ∧ Hid (down (xs.take i) v = down (xs.take i) k)) (fun _ x => (intOf x + 1).toNat)
  case atStart => exact ⟨v, by omega, rfl, by simp, hid rfl⟩
  case round =>
    obtain ⟨k, hk, rfl, rfl, HD⟩ := hrel
    match k, hk, HD with
    | 0, hk, HD =>
      go_wp2_with fail
      go_ret
      exact ⟨ret_int (by rw [HR.out, HD.out]; simp [down]; omega), rfl⟩
    | k + 1, hk, HD =>
      have e : ((k + 1 : Nat) : Int) - 1 = (k : Int) := by omega
      rw [e]
      have e2 : 1 + ((v : Int) - ((k + 1 : Nat) : Int)) = (v : Int) - (k : Int) := by omega
      rw [e2]
      clear e e2
      by_cases hm : hasB (xs.take i) (k : Int) = true
      · have HM := hid hm
        clear hm
        go_wp2_with fail
        refine (l1Has_any _ _ _ _ _ _ ht).mono ?_
        rintro e w' ⟨rfl, rfl⟩
        rw [HM.out]
        go_wp2_with fail
        go_round
        case rel => exact ⟨k, by omega, by go_num, by go_num, hid (by rw [HD.out, down_step (hasB_iff.1 HM.out)])⟩
        case measure => simp [intOf]
      · have HM := hid hm
        clear hm
        go_wp2_with fail
        refine (l1Has_any _ _ _ _ _ _ ht).mono ?_
        rintro e w' ⟨rfl, rfl⟩
        rw [Bool.eq_false_iff.2 HM.out]
        go_wp2_with fail
        go_ret
        exact ⟨ret_int (by rw [HR.out, HD.out, down_stop (fun hh => HM.out (hasB_iff.2 hh))]; omega), rfl⟩

set_option maxHeartbeats 800000 in
theorem specCountOutcome_any (a : Option Addr) (n cap : Nat) (xs : List Int) (w : World) (h : Has w a n cap xs) :
    Calls Try.prog 43 #[.slice a n cap] w (PostInt w (outcomesOf xs)) := by
  have hlen := h.len
  by_cases hg : outB xs = true
  · have HR : Hid (outcomesOf xs = (prodTo xs n, true)) := hid (by simp [outcomesOf, hg, hlen])
    have hps : ∀ k, k ≤ n → 1 ≤ prodTo xs k ∧ prodTo xs k ≤ 16777216 := fun k hk => prod_small hg (by omega)
    have hon : ∀ k, k < n → 0 ≤ nth xs k ∧ nth xs k < 8 ∧ 1 ≤ rowOf xs k ∧ rowOf xs k ≤ 8 := fun k hk => by
      have h1 := out_nth hg (i := k) (by omega)
      have h2 := leastOf_bounds h1.1
      have h3 := out_le hg
      unfold rowOf
      omega
    have HG := hid hg
    have hle := h.le
    clear hg hlen
    go_enter Try.func43, Try.ntmps43
    go_wp2_with (go_at_call 95; refine (paOutcome_any _ _ _ _ _ h).mono ?_; rintro e w' ⟨rfl, rfl⟩; rw [HG.out])
    go_loop [4, 11] (fun c i => ∃ k : Nat, k ≤ n ∧ i = .int .i64 k ∧ c = .int .i64 (prodTo xs k)) (fun _ i => n - (intOf i).toNat)
    case atStart => exact ⟨0, Nat.zero_le _, rfl, rfl⟩
    case round =>
      obtain ⟨k, hk, rfl, rfl⟩ := hrel
      by_cases hlt : k < n
      · obtain ⟨p0, p1⟩ := hps k hk
        obtain ⟨q0, q1⟩ := hps (k + 1) (by omega)
        obtain ⟨o0, o1, o2, o3⟩ := hon k hlt
        have HP : Hid (prodTo xs (k + 1) = prodTo xs k * rowOf xs k) := hid rfl
        rw [HP.out] at q0 q1
        clear hps hon
        go_wp2_with (go_at_call 96; refine (paRow_any _ _ _ _ k _ h hlt o0 (by omega)).mono ?_; rintro e w' ⟨rfl, rfl⟩)
        go_round
        case rel => exact ⟨k + 1, by omega, by go_num, by rw [HP.out]⟩
        case measure => simp [intOf]; omega
      · obtain rfl : k = n := by omega
        go_wp2_with fail
        go_ret2
        exact postInt HR.out (Below.refl _ _)
  · have HR : Hid (outcomesOf xs = (0, false)) := hid (by simp [outcomesOf, hg])
    have HG := hid hg
    clear hg
    go_enter Try.func43, Try.ntmps43
    go_wp2_with (go_at_call 95; refine (paOutcome_any _ _ _ _ _ h).mono ?_; rintro e w' ⟨rfl, rfl⟩; rw [Bool.eq_false_iff.2 HG.out])
    go_ret2
    exact postInt HR.out (Below.refl _ _)

/-- A local array of eight cells: what each holds. -/
structure Arr (w : World) (blk : Nat) (f : Nat → Value) : Prop where
  cell : ∀ z, z < 8 → w.cell? ⟨blk, z, none⟩ = some (f z)
  free : ∀ z, w.frozen? ⟨blk, z, none⟩ = false
theorem eight {v : Value} {z : Nat} (h : z < 8) : (#[v, v, v, v, v, v, v, v] : Array Value)[z]? = some v := by
  rcases (show z = 0 ∨ z = 1 ∨ z = 2 ∨ z = 3 ∨ z = 4 ∨ z = 5 ∨ z = 6 ∨ z = 7 by omega) with rfl | rfl | rfl | rfl | rfl | rfl | rfl | rfl <;> rfl
theorem arr_new (w : World) (v : Value) (t : TypeId) : Arr (w.alloc (.cells #[v, v, v, v, v, v, v, v] t)) w.heap.size fun _ => v :=
  ⟨fun z hz => by rw [World.cell?_alloc_at _ _ _ _ rfl, eight hz], fun z => by rw [World.frozen?_alloc_at _ _ _ _ rfl]⟩
theorem Arr.set {w : World} {blk : Nat} {f : Nat → Value} (h : Arr w blk f) {z : Nat} (hz : z < 8) (v : Value) : Arr (w.setCell ⟨blk, z, none⟩ v) blk fun y => if y = z then v else f y := by
  refine ⟨fun y hy => ?_, fun y => by rw [World.frozen?_setCell]; exact h.free y⟩
  by_cases e : y = z
  · subst e
    rw [World.cell?_setCell_same _ _ _ (h.cell y hy), if_pos rfl]
  · rw [World.cell?_setCell_other _ _ _ _ (by intro hh; injection hh with _ h5 _; exact e h5.symm), if_neg e]
    exact h.cell y hy
theorem Arr.congr {w : World} {blk : Nat} {f g : Nat → Value} (h : Arr w blk f) (e : ∀ z, z < 8 → g z = f z) : Arr w blk g := ⟨fun z hz => by rw [e z hz]; exact h.cell z hz, h.free⟩
theorem has_take_succ {xs : List Int} {k : Nat} (h : k < xs.length) (z : Int) : hasB (xs.take (k + 1)) z = (hasB (xs.take k) z || decide (z = nth xs k)) := by
  rw [Bool.eq_iff_iff]
  simp [hasB, take_succ_nth h]
theorem Arr.below {w w' : World} {blk B : Nat} {f : Nat → Value} (h : Arr w blk f) (hb : Below B w w') (hB : blk < B) : Arr w' blk f :=
  ⟨fun z hz => by rw [hb.cell (p := ⟨blk, z, none⟩) hB]; exact h.cell z hz, fun z => by rw [hb.frozen (p := ⟨blk, z, none⟩) hB]; exact h.free z⟩

set_option maxHeartbeats 800000 in
theorem isOutcome_any (a : Option Addr) (n cap : Nat) (xs : List Int) (w : World) (h : Has w a n cap xs) :
    Calls Try.prog 97 #[.slice a n cap] w (PostBool w (outB xs)) := by
  have hlen := h.len
  by_cases hg : carsB xs n = true
  · have HR : Hid (outB xs = distB xs n) := hid (by simp [outB, hlen, hg])
    have g1 : n ≤ 8 := by have := (carsB_iff.1 hg).1; omega
    have g4 : ∀ i, i < n → 0 ≤ nth xs i ∧ nth xs i ≤ (n : Int) - 1 := fun i hi => (carsB_iff.1 hg).2 _ (nth_mem (by omega))
    have HL := hid hlen
    have HG := hid hg
    clear hg hlen
    go_enter Try.func97, Try.ntmps97
    go_wp2_with (go_at_call 119; refine (areCarsBelow_any _ _ _ _ _ _ h).mono ?_; rintro e w' ⟨rfl, rfl⟩; rw [HG.out])
    have A0 := arr_new w (.bool false) 110
    have B0 : Below w.heap.size w (w.alloc (.cells #[.bool false, .bool false, .bool false, .bool false, .bool false, .bool false, .bool false, .bool false] 110)) := (Below.refl _ _).alloc (Nat.le_refl _) _
    go_loopw [13] (fun i wr => ∃ k : Nat, k ≤ n ∧ i = .int .i64 k ∧ Arr wr w.heap.size (fun z => .bool (hasB (xs.take k) z)) ∧ Hid (distB xs k = true) ∧ Below w.heap.size w wr) (fun i _ => n - (intOf i).toNat)
    case atStart => exact ⟨0, Nat.zero_le _, rfl, A0.congr (fun z _ => by simp [hasB]), hid rfl, B0⟩
    case round =>
      obtain ⟨k, hk, rfl, HA, HD, hb⟩ := hrel
      clear A0 B0
      by_cases hlt : k < n
      · obtain ⟨b, off, rfl, hbb, hc⟩ := h.2.2.2.2 (by omega)
        have hck : wr.cell? ⟨b, off + k, none⟩ = some (.int .i64 (nth xs k)) := by rw [hb.cell (p := ⟨b, off + k, none⟩) hbb]; exact hc k hlt
        obtain ⟨hx0, hx1⟩ := g4 k hlt
        obtain ⟨v, hv⟩ : ∃ v : Nat, nth xs k = (v : Int) := ⟨_, (Int.toNat_of_nonneg hx0).symm⟩
        have hac := HA.cell v (by omega)
        have haf := HA.free v
        rw [hv] at hck hx0 hx1
        have HV := hid hv
        clear hc g4 hv
        by_cases hq : hasB (xs.take k) v = true
        · have HN := hid (distB_no (n := n) hlt (by rw [HV.out]; exact hq))
          rw [hq] at hac
          clear hq
          go_wp2_with fail
          go_ret
          exact postBool (by rw [HR.out, HN.out]) hb
        · have hq' := Bool.eq_false_iff.2 hq
          have HQ := hid hq'
          rw [hq'] at hac
          clear hq hq'
          go_wp2_with fail
          go_roundw
          case rel =>
            refine ⟨k + 1, by omega, by go_num, (HA.set (z := v) (by omega) (.bool true)).congr (fun z hz => ?_), hid (by rw [distB_succ, HD.out, HV.out, HQ.out]; rfl), hb.setCell (by simp) _⟩
            rw [has_take_succ (by rw [HL.out]; omega), HV.out]
            by_cases e : z = v
            · subst e; simp
            · have e' : ¬ (z : Int) = (v : Int) := by omega
              simp [e, e']
          case measure => simp [intOf]; omega
      · obtain rfl : k = n := by omega
        go_wp2_with fail
        go_ret
        exact postBool (by rw [HR.out, HD.out]) hb
  · have HR : Hid (outB xs = false) := hid (by simp [outB, hlen, hg])
    have HG := hid hg
    clear hg
    go_enter Try.func97, Try.ntmps97
    go_wp2_with (go_at_call 119; refine (areCarsBelow_any _ _ _ _ _ _ h).mono ?_; rintro e w' ⟨rfl, rfl⟩; rw [Bool.eq_false_iff.2 HG.out])
    go_ret
    exact postBool HR.out.symm (Below.refl _ _)

/-- What the array of cars holds, behind the first k cars. -/
def carAt (xs : List Int) : Nat → Nat → Int
  | 0, _ => 0
  | k + 1, z => if nth xs k = (z : Int) then (k : Int) else carAt xs k z
theorem carAt_at {xs : List Int} (h : outB xs = true) {j : Nat} (hj : j < xs.length) {v : Nat} (hv : nth xs j = (v : Int)) : ∀ k, j < k → k ≤ xs.length → carAt xs k v = (j : Int)
  | 0, h1, _ => by omega
  | k + 1, h1, h2 => by
    simp only [carAt]
    by_cases e : nth xs k = (v : Int)
    · have := out_inj h (i := k) (j := j) (by omega) hj (by rw [e, hv])
      rw [if_pos e]; omega
    · rw [if_neg e]
      have hne : j ≠ k := by rintro rfl; exact e hv
      exact carAt_at h hj hv k (by omega) (by omega)
/-- The car at a place is an earlier one exactly if the place is among the earlier places. -/
theorem carAt_lt {xs : List Int} (h : outB xs = true) {i v : Nat} (hi : i < xs.length) (hv : v < xs.length) : carAt xs xs.length v < (i : Int) ↔ (v : Int) ∈ xs.take i := by
  obtain ⟨j, hj, e⟩ := mem_nth (out_all h hv)
  rw [carAt_at h hj e xs.length hj (Nat.le_refl _), ← e, out_before h hi hj]
  omega
theorem carAt_bounds (xs : List Int) (z : Nat) : ∀ k, 0 ≤ carAt xs k z ∧ carAt xs k z ≤ (k : Int)
  | 0 => by simp [carAt]
  | k + 1 => by
    have := carAt_bounds xs z k
    simp only [carAt]
    split <;> omega

set_option maxHeartbeats 1600000 in
theorem leastFavourites_any (a : Option Addr) (n cap : Nat) (xs : List Int) (w : World) (h : Has w a n cap xs) (ho : outB xs = true) :
    Calls Try.prog 98 #[.slice a n cap] w fun e w' => ∃ a' cap', e = .returned (.slice a' n cap') ∧ Own w' w.heap.size a' n cap' (leasts xs) ∧ Below w.heap.size w w' := by
  have hlen := h.len
  have h8 : n ≤ 8 := by have := out_le ho; omega
  have g4 : ∀ i, i < n → 0 ≤ nth xs i ∧ nth xs i < (n : Int) := fun i hi => by have := out_nth ho (i := i) (by omega); omega
  have HO := hid ho
  have HL := hid hlen
  have A0 := arr_new w (.int .i64 0) 111
  have B0 : Below w.heap.size w (w.alloc (.cells #[.int .i64 0, .int .i64 0, .int .i64 0, .int .i64 0, .int .i64 0, .int .i64 0, .int .i64 0, .int .i64 0] 111)) := (Below.refl _ _).alloc (Nat.le_refl _) _
  clear ho hlen
  go_enter Try.func98, Try.ntmps98
  go_wp2_with fail
  go_loopw [11] (fun i wr => ∃ k : Nat, k ≤ n ∧ i = .int .i64 k ∧ Arr wr w.heap.size (fun z => .int .i64 (carAt xs k z)) ∧ Below w.heap.size w wr ∧ w.heap.size < wr.heap.size) (fun i _ => n - (intOf i).toNat)
  case atStart => exact ⟨0, Nat.zero_le _, rfl, A0, B0, by simp⟩
  case round =>
    obtain ⟨k, hk, rfl, HA, hb, hsz⟩ := hrel
    clear A0 B0
    by_cases hlt : k < n
    · obtain ⟨b, off, rfl, hbb, hc⟩ := h.2.2.2.2 (by omega)
      have hck : wr.cell? ⟨b, off + k, none⟩ = some (.int .i64 (nth xs k)) := by rw [hb.cell (p := ⟨b, off + k, none⟩) hbb]; exact hc k hlt
      obtain ⟨hx0, hx1⟩ := g4 k hlt
      obtain ⟨v, hv⟩ : ∃ v : Nat, nth xs k = (v : Int) := ⟨_, (Int.toNat_of_nonneg hx0).symm⟩
      have hac := HA.cell v (by omega)
      have haf := HA.free v
      rw [hv] at hck hx0 hx1
      have HV := hid hv
      clear hc g4 hv
      go_wp2_with fail
      go_roundw
      case rel =>
        refine ⟨k + 1, by omega, by go_num, (HA.set (z := v) (by omega) (.int .i64 k)).congr (fun z hz => ?_), hb.setCell (by simp) _, by simpa using hsz⟩
        simp only [carAt, HV.out]
        by_cases e : z = v
        · subst e; simp
        · have e' : ¬ (v : Int) = (z : Int) := by omega
          simp [e, e']
      case measure => simp [intOf]; omega
    · obtain rfl : k = n := by omega
      obtain ⟨wo, rfl⟩ : ∃ wo : World, wo = wr := ⟨_, rfl⟩
      go_wp2_with (at_make; refine wpList_make_ints _ rfl _ _ rfl _ rfl rfl (by omega) ?_; intro a1 cap1 w1 hown1 hb1)
      have HA1 := HA.below hb1 hsz
      have hb01 := hb.trans (hb1.mono (by omega))
      clear HA hb1
      go_loopw [25] (fun i wx => ∃ (q : Nat) (ys : List Int), q ≤ k ∧ i = .int .i64 q ∧ Own wx wo.heap.size a1 k cap1 ys ∧ (∀ i, i < q → nth ys i = leastOf xs i) ∧ Arr wx w.heap.size (fun z => .int .i64 (carAt xs k z)) ∧ Below w.heap.size w wx) (fun i _ => k - (intOf i).toNat)
      case atStart => exact ⟨0, _, Nat.zero_le _, rfl, hown1, fun i hi => by omega, HA1, hb01⟩
      case round =>
        obtain ⟨q, ys, hq, rfl, hown, hys, HA, hb⟩ := hrel
        clear hown1 HA1 hb01
        by_cases hlt : q < k
        · obtain ⟨b, off, rfl, hbb, hc⟩ := h.2.2.2.2 (by omega)
          have hck : wr.cell? ⟨b, off + q, none⟩ = some (.int .i64 (nth xs q)) := by rw [hb.cell (p := ⟨b, off + q, none⟩) hbb]; exact hc q hlt
          obtain ⟨hx0, hx1⟩ := g4 q hlt
          obtain ⟨v, hv⟩ : ∃ v : Nat, nth xs q = (v : Int) := ⟨_, (Int.toNat_of_nonneg hx0).symm⟩
          obtain ⟨g, rfl, hg1, hg2, hg3, hg4⟩ := hown.opened (by omega)
          have hgk := hg3 q hlt
          have hgf := hg4 q
          have HV : Hid (leastOf xs q = (down (xs.take q) v : Int)) := hid (by simp [leastOf, hv])
          have HYS := hid hys
          rw [hv] at hck hx0 hx1
          clear hc g4 hv hg3 hg4 hys
          go_wp2_with fail
          go_loop [8] (fun x => ∃ y : Nat, y ≤ v ∧ x = .int .i64 (y : Int) ∧ Hid (down (xs.take q) v = down (xs.take q) y)) (fun x => (intOf x).toNat)
          case atStart => exact ⟨v, Nat.le_refl _, rfl, hid rfl⟩
          case round =>
            obtain ⟨y, hy, rfl, HD⟩ := hrel
            have fin : ∀ z : Int, z = leastOf xs q → (∃ (ys' : List Int), Own (wr.setCell ⟨g, q, none⟩ (.int .i64 z)) wo.heap.size (some ⟨g, 0, none⟩) k cap1 ys' ∧ (∀ i, i < q + 1 → nth ys' i = leastOf xs i) ∧ Arr (wr.setCell ⟨g, q, none⟩ (.int .i64 z)) w.heap.size (fun z => .int .i64 (carAt xs k z)) ∧ Below w.heap.size w (wr.setCell ⟨g, q, none⟩ (.int .i64 z))) := by
              intro z hz
              obtain ⟨s1, s2⟩ := hown.set q z
              refine ⟨_, s1, fun i hi => ?_, HA.below (B := w.heap.size + 1) ((Below.refl _ _).setCell (by simp; omega) _) (by omega), hb.setCell (by simp; omega) _⟩
              rw [nth_set (by rw [hown.len]; omega)]
              split
              · subst_vars; rfl
              · exact HYS.out i (by omega)
            have FIN := hid fin
            clear fin
            match y, hy, HD with
            | 0, hy, HD =>
              go_wp2_with fail
              go_roundw
              case rel =>
                obtain ⟨ys', r1, r2, r3, r4⟩ := FIN.out 0 (by rw [HV.out, HD.out]; rfl)
                exact ⟨q + 1, ys', by omega, by go_num, r1, r2, r3, r4⟩
              case measure => simp [intOf]; omega
            | m + 1, hy, HD =>
              have hac := HA.cell m (by omega)
              by_cases hm : (m : Int) ∈ xs.take q
              · have hlt2 : carAt xs k m < (q : Int) := by
                  have := (carAt_lt HO.out (i := q) (v := m) (by rw [HL.out]; omega) (by rw [HL.out]; omega)).2 hm
                  rwa [HL.out] at this
                have HM := hid hm
                clear hm
                go_wp2_with fail
                go_round
                case rel => exact ⟨m, by omega, by go_num, hid (by rw [HD.out, down_step HM.out])⟩
                case measure => simp [intOf]
              · have hlt2 : ¬ carAt xs k m < (q : Int) := by
                  intro hh
                  refine hm ((carAt_lt HO.out (i := q) (v := m) (by rw [HL.out]; omega) (by rw [HL.out]; omega)).1 ?_)
                  rwa [HL.out]
                have HM := hid hm
                clear hm
                go_wp2_with fail
                go_roundw
                case rel =>
                  obtain ⟨ys', r1, r2, r3, r4⟩ := FIN.out ((m : Int) + 1) (by rw [HV.out, HD.out, down_stop HM.out]; rfl)
                  exact ⟨q + 1, ys', by omega, by go_num, r1, r2, r3, r4⟩
                case measure => simp [intOf]; omega
        · obtain rfl : q = k := by omega
          go_wp2_with fail
          go_ret
          refine ⟨_, _, rfl, ?_, hb⟩
          rw [show leasts xs = ys from ext_nth (by rw [length_leasts, hown.len, HL.out]) (fun i hi => by rw [length_leasts, HL.out] at hi; rw [nth_leasts (by rw [HL.out]; omega), hys i hi])]
          exact hown.mono (by omega)

set_option maxHeartbeats 800000 in
theorem countOutcome_any (a : Option Addr) (n cap : Nat) (xs : List Int) (w : World) (h : Has w a n cap xs) :
    Calls Try.prog 44 #[.slice a n cap] w (PostInt w (outcomesOf xs)) := by
  have hlen := h.len
  by_cases hg : outB xs = true
  · have HR : Hid (outcomesOf xs = (prodTo xs n, true)) := hid (by simp [outcomesOf, hg, hlen])
    have hps : ∀ k, k ≤ n → 1 ≤ prodTo xs k ∧ prodTo xs k ≤ 16777216 := fun k hk => prod_small hg (by omega)
    have hon : ∀ k, k < n → 0 ≤ nth xs k ∧ nth xs k < 8 ∧ 0 ≤ leastOf xs k ∧ leastOf xs k ≤ nth xs k := fun k hk => by
      have h1 := out_nth hg (i := k) (by omega)
      have h2 := leastOf_bounds h1.1
      have h3 := out_le hg
      omega
    have HG := hid hg
    have HL := hid hlen
    have hle := h.le
    clear hlen
    go_enter Try.func44, Try.ntmps44
    go_wp2_with (go_at_call 97; refine (isOutcome_any _ _ _ _ _ h).mono ?_; rintro e w1 ⟨rfl, hb1⟩; rw [HG.out])
    refine (leastFavourites_any _ _ _ _ _ (h.below hb1 (Nat.le_refl _)) HG.out).mono ?_
    rintro e w2 ⟨a2, cap2, rfl, hown2, hb2⟩
    have hb := hb1.trans (hb2.mono hb1.size)
    obtain ⟨k0, k1, k2, k3, k4⟩ := hown2.has
    obtain ⟨h0, h1, h2, h3, h4⟩ := h.below hb (Nat.le_refl _)
    clear k0 h0 hg hown2
    go_wp2_with fail
    go_loop [4, 13] (fun c i => ∃ k : Nat, k ≤ n ∧ i = .int .i64 k ∧ c = .int .i64 (prodTo xs k)) (fun _ i => n - (intOf i).toNat)
    case atStart => exact ⟨0, Nat.zero_le _, rfl, rfl⟩
    case round =>
      obtain ⟨k, hk, rfl, rfl⟩ := hrel
      by_cases hlt : k < n
      · obtain ⟨b1, off1, rfl, hbb1, hc1⟩ := h4 (by omega)
        obtain ⟨b3, off3, rfl, hbb3, hc3⟩ := k4 (by omega)
        have hck := hc1 k hlt
        have hdk := hc3 k hlt
        rw [nth_leasts (by rw [HL.out]; omega)] at hdk
        obtain ⟨p0, p1⟩ := hps k hk
        obtain ⟨q0, q1⟩ := hps (k + 1) (by omega)
        obtain ⟨o0, o1, o2, o3⟩ := hon k hlt
        have HP : Hid (prodTo xs (k + 1) = prodTo xs k * (nth xs k - leastOf xs k + 1)) := hid rfl
        rw [HP.out] at q0 q1
        clear hps hon hc1 hc3 h4 k4
        go_wp2_with fail
        go_round
        case rel => exact ⟨k + 1, by omega, by go_num, by rw [HP.out]⟩
        case measure => simp [intOf]; omega
      · obtain rfl : k = n := by omega
        go_wp2_with fail
        go_ret2
        exact postInt HR.out hb
  · have HR : Hid (outcomesOf xs = (0, false)) := hid (by simp [outcomesOf, hg])
    have HG := hid hg
    clear hg
    go_enter Try.func44, Try.ntmps44
    go_wp2_with (go_at_call 97; refine (isOutcome_any _ _ _ _ _ h).mono ?_; rintro e w1 ⟨rfl, hb1⟩; rw [Bool.eq_false_iff.2 HG.out])
    go_ret2
    exact postInt HR.out hb1
end Go.Proofs.Ytpjgidjkpcbniab

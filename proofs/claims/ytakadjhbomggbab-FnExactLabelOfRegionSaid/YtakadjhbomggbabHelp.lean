/- The helpers of the laws: copies, comparisons, marks. -/
import Derived.Test.YtakadjhbomggbabBase
namespace Go.Proofs.Ytakadjhbomggbab
open Go.RowKit

/-- A call that only reads: the world is as it was, but for draws. -/
def Quiet (w w' : World) : Prop := ∃ k, w' = w.drewN k
theorem Quiet.rfl' (w : World) : Quiet w w := ⟨0, rfl⟩
theorem Quiet.more {w w' : World} (h : Quiet w w') (k : Nat) : Quiet w (w'.drewN k) := by
  obtain ⟨j, rfl⟩ := h
  exact ⟨j + k, by simp⟩
theorem Quiet.below {w w' : World} (h : Quiet w w') (B : Nat) : Below B w w' := by
  obtain ⟨j, rfl⟩ := h
  exact below_drewN (Below.refl _ _) _

def FromTo (xs ys : List Int) (k : Nat) : Prop := ∀ i, i < k → nth ys i = nth xs i

set_option maxHeartbeats 400000 in
theorem toIntS_any (a : Option Addr) (n cap : Nat) (xs : List Int) (w : World) (h : Has w a n cap xs) :
    Calls Try.prog 9 #[.slice a n cap] w fun e w' => ∃ a' cap', e = .returned (.slice a' n cap') ∧ Own w' w.heap.size a' n cap' xs ∧ Below w.heap.size w w' := by
  obtain ⟨h0, h1, h2, h3, h4⟩ := h
  go_enter Try.func9, Try.ntmps9
  go_wp2_with (at_make; refine wpList_make_ints _ rfl _ _ rfl _ rfl rfl (by omega) ?_; intro a' cap' w1 hown1 hb1)
  go_loopw [4] (fun i wr => ∃ (k : Nat) (ys : List Int), k ≤ n ∧ i = .int .i64 k ∧ Own wr w.heap.size a' n cap' ys ∧ FromTo xs ys k ∧ Below w.heap.size w wr) (fun i _ => n - (intOf i).toNat)
  case atStart => exact ⟨0, _, Nat.zero_le _, rfl, hown1, fun i hi => by omega, hb1⟩
  case round =>
    obtain ⟨k, ys, hk, rfl, hown, hft, hb⟩ := hrel
    by_cases hlt : k < n
    · obtain ⟨g, rfl, hg1, hg2, hg3, hg4⟩ := hown.opened (by omega)
      obtain ⟨b, off, rfl, hbb, hc⟩ := h4 (by omega)
      have hck : wr.cell? ⟨b, off + k, none⟩ = some (.int .i64 (nth xs k)) := by rw [hb.cell (p := ⟨b, off + k, none⟩) hbb]; exact hc k hlt
      have hgk := hg3 k hlt
      have hgf := hg4 k
      clear hc h4 hg3 hg4 hown1 hb1
      go_wp2_with fail
      go_roundw
      case rel =>
        obtain ⟨s1, s2⟩ := hown.set k (nth xs k)
        refine ⟨k + 1, _, by omega, by go_num, s1, ?_, hb.setCell hg1 _⟩
        intro i hi
        rw [nth_set (by rw [hown.len]; omega)]
        split
        · subst_vars; rfl
        · exact hft i (by omega)
      case measure => simp [intOf]; omega
    · obtain rfl : k = n := by omega
      go_wp2_with fail
      go_ret
      refine ⟨_, _, rfl, ?_, hb⟩
      rw [show xs = ys from ext_nth (by rw [hown.len, h0]) (fun i hi => (hft i (by omega)).symm)]
      exact hown

/-- Whether two lists are the same. -/
def same (xs ys : List Int) : Bool := decide (xs = ys)

theorem same_no {xs ys : List Int} {k : Nat} (h : nth xs k ≠ nth ys k) : same xs ys = false := by
  unfold same
  rw [decide_eq_false_iff_not]
  rintro rfl
  exact h rfl
theorem same_yes {xs ys : List Int} (hl : xs.length = ys.length) (h : FromTo xs ys xs.length) : same xs ys = true := by
  unfold same
  rw [decide_eq_true_iff]
  exact ext_nth hl fun i hi => (h i hi).symm

set_option maxHeartbeats 400000 in
theorem eqIntS_any (a b : Option Addr) (n m cap cap' : Nat) (xs ys : List Int) (w : World) (h : Has w a n cap xs) (h' : Has w b m cap' ys) :
    Calls Try.prog 12 #[.slice a n cap, .slice b m cap'] w fun e w' => e = .returned (.bool (same xs ys)) ∧ Quiet w w' := by
  obtain ⟨h0, h1, h2, h3, h4⟩ := h
  obtain ⟨k0, k1, k2, k3, k4⟩ := h'
  by_cases hnm : n = m
  · have hb : ((n : Int) != (m : Int)) = false := by simp [hnm]
    subst hnm
    go_enter Try.func12, Try.ntmps12
    go_wp2_with fail
    go_loopw [5] (fun i wr => ∃ k : Nat, k ≤ n ∧ i = .int .i64 k ∧ FromTo xs ys k ∧ Quiet w wr) (fun i _ => n - (intOf i).toNat)
    case atStart => exact ⟨0, Nat.zero_le _, rfl, fun i hi => by omega, ⟨0, rfl⟩⟩
    case round =>
      obtain ⟨k, hk, rfl, hft, q, hq⟩ := hrel
      subst hq
      by_cases hlt : k < n
      · obtain ⟨b1, off1, rfl, hb1, hc1⟩ := h4 (by omega)
        obtain ⟨b2, off2, rfl, hb2, hc2⟩ := k4 (by omega)
        have hck := hc1 k hlt
        have hdk := hc2 k hlt
        have hkk : (k : Int) < (n : Int) := by omega
        have hkz : (0 : Int) ≤ (k : Int) := by omega
        clear hc1 hc2 h4 k4
        by_cases he : nth xs k = nth ys k
        · have hbe : (nth xs k != nth ys k) = false := by simp [he]
          have HE := hid he
          clear he
          go_wp2_with fail
          go_quiet (fail)
          go_wp2_with fail
          go_roundw
          case rel => exact ⟨k + 1, by omega, by go_num, fun i hi => by rcases Nat.lt_succ_iff_lt_or_eq.1 hi with h | rfl; exact hft i h; exact HE.out.symm, ⟨_, rfl⟩⟩
          case measure => simp [intOf]; omega
        · have hbe : (nth xs k != nth ys k) = true := by simp [he]
          have HE := hid he
          clear he
          go_wp2_with fail
          go_quiet (fail)
          go_wp2_with fail
          go_ret
          exact ⟨ret_bool (same_no HE.out).symm, (Quiet.more ⟨_, rfl⟩ _)⟩
      · obtain rfl : k = n := by omega
        go_wp2_with fail
        go_ret
        exact ⟨ret_bool (same_yes (by omega) (by rw [h0]; exact hft)).symm, ⟨_, rfl⟩⟩
  · have hb : ((n : Int) != (m : Int)) = true := by simp; omega
    go_enter Try.func12, Try.ntmps12
    go_wp2_with fail
    go_ret
    exact ⟨ret_bool (show false = same xs ys from by unfold same; symm; rw [decide_eq_false_iff_not]; rintro rfl; omega), ⟨0, rfl⟩⟩

/-- The marks k, k + 1, .. -/
def marks (k : Int) (n : Nat) : List Int := (List.range n).map fun (i : Nat) => k + (i : Int)
theorem length_marks (k : Int) (n : Nat) : (marks k n).length = n := by simp [marks]
theorem nth_marks {k : Int} {n i : Nat} (h : i < n) : nth (marks k n) i = k + i := by simp [nth, marks, h]

/-- Behind marking: the block of the slice alone may have been written. -/
def Marked (w w' : World) (a : Option Addr) : Prop := ∃ row, w.grownBy w' row ∧ ∀ g, row = some g → ∃ p, a = some p ∧ p.block = g

set_option maxHeartbeats 400000 in
theorem markIntS_any (B : Nat) (a : Option Addr) (n cap : Nat) (xs : List Int) (k0 : Int) (w : World) (h : Own w B a n cap xs) (hk0 : 0 ≤ k0) (hk1 : k0 ≤ 4503599627370496) :
    Calls Try.prog 13 #[.slice a n cap, .int .i64 k0] w fun e w' => e = .returned (.int .i64 (k0 + n)) ∧ Own w' B a n cap (marks k0 n) ∧ Marked w w' a := by
  have hn := h.le
  by_cases h0 : n = 0
  · subst h0
    go_enter Try.func13, Try.ntmps13
    go_wp2_with fail
    refine wp_loop_rounds 1 ?_
    rw [rounds_succ]
    go_wp2_with fail
    go_ret
    refine ⟨by simp, ?_, ⟨none, World.grownBy.refl _ _, by simp⟩⟩
    rw [show marks k0 0 = xs from by have := h.len; rw [List.eq_nil_of_length_eq_zero this]; rfl]
    exact h
  · obtain ⟨g, rfl, hg1, hg2, hg3, hg4⟩ := h.opened (by omega)
    clear hg3 hg4
    go_enter Try.func13, Try.ntmps13
    go_wp2_with fail
    go_loopw [1, 5] (fun q i wr => ∃ (k : Nat) (ys : List Int), k ≤ n ∧ i = .int .i64 k ∧ q = .int .i64 (k0 + k) ∧ Own wr B (some ⟨g, 0, none⟩) n cap ys ∧ FromTo (marks k0 n) ys k ∧ w.grownBy wr (some g)) (fun _ i _ => n - (intOf i).toNat)
    case atStart => exact ⟨0, _, Nat.zero_le _, rfl, by simp, h, fun i hi => by omega, World.grownBy.refl _ _⟩
    case round =>
      obtain ⟨k, ys, hk, rfl, rfl, hown, hft, hgr⟩ := hrel
      by_cases hlt : k < n
      · obtain ⟨g', hga, hg1, hg2, hg3, hg4⟩ := hown.opened (by omega)
        simp at hga
        subst hga
        have hgk := hg3 k hlt
        have hgf := hg4 k
        clear hg3 hg4
        go_wp2_with fail
        go_roundw
        case rel =>
          obtain ⟨s1, s2⟩ := hown.set k (k0 + k)
          refine ⟨k + 1, _, by omega, by go_num, by go_num, s1, ?_, ⟨s2.os.trans hgr.os, s2.tape.trans hgr.tape, s2.output.trans hgr.output, Nat.le_trans hgr.size s2.size, fun j hj hne => (s2.block j (Nat.lt_of_lt_of_le hj hgr.size) hne).trans (hgr.block j hj hne)⟩⟩
          intro i hi
          rw [nth_set (by rw [hown.len]; omega)]
          split
          · subst_vars; rw [nth_marks hlt]
          · exact hft i (by omega)
        case measure => simp [intOf]; omega
      · obtain rfl : k = n := by omega
        go_wp2_with fail
        go_ret
        refine ⟨rfl, ?_, ⟨_, hgr, fun g' hg' => ⟨_, rfl, by simpa using hg'⟩⟩⟩
        rw [show marks k0 k = ys from ext_nth (by rw [hown.len, length_marks]) (fun i hi => (hft i (by rw [length_marks] at hi; omega)).symm)]
        exact hown

set_option maxHeartbeats 400000 in
theorem heldIntS_any (a : Option Addr) (n cap : Nat) (k0 : Int) (w : World) (h : Has w a n cap (marks k0 n)) (hk0 : 0 ≤ k0) (hk1 : k0 ≤ 4503599627370496) :
    Calls Try.prog 20 #[.slice a n cap, .int .i64 k0] w fun e w' => e = .returned (.int .i64 (k0 + n)) ∧ w = w' := by
  obtain ⟨h0, h1, h2, h3, h4⟩ := h
  go_enter Try.func20, Try.ntmps20
  go_wp2_with fail
  go_loop [1, 5] (fun q i => ∃ k : Nat, k ≤ n ∧ i = .int .i64 k ∧ q = .int .i64 (k0 + k)) (fun _ i => n - (intOf i).toNat)
  case atStart => exact ⟨0, Nat.zero_le _, rfl, by simp⟩
  case round =>
    obtain ⟨k, hk, rfl, rfl⟩ := hrel
    by_cases hlt : k < n
    · obtain ⟨b, off, rfl, hbb, hc⟩ := h4 (by omega)
      have hck := hc k hlt
      rw [nth_marks hlt] at hck
      clear hc h4
      have hbe : (k0 + (k : Int) != k0 + (k : Int)) = false := by simp
      go_wp2_with fail
      go_round
      case rel => exact ⟨k + 1, by omega, by go_num, by go_num⟩
      case measure => simp [intOf]; omega
    · obtain rfl : k = n := by omega
      go_wp2_with fail
      go_ret
      exact ⟨rfl, rfl⟩

/-! ### What calls come to -/
/-- A slice of the call's own and a bool. -/
def PostInts (w : World) (r : List Int × Bool) (e : Ending) (w' : World) : Prop :=
  ∃ a m cap, e = .returned (.tuple #[.slice a m cap, .bool r.2]) ∧ Own w' w.heap.size a m cap r.1 ∧ Below w.heap.size w w'
theorem postInts {w w' : World} {r : List Int × Bool} {ys : List Int} {ok : Bool} {a : Option Addr} {m cap : Nat} (hr : r = (ys, ok)) (h : Own w' w.heap.size a m cap ys) (hb : Below w.heap.size w w') :
    PostInts w r (.returned (.tuple #[.slice a m cap, .bool ok])) w' := by subst hr; exact ⟨_, _, _, rfl, h, hb⟩
theorem postInts_no {w w' : World} {r : List Int × Bool} (hr : r = ([], false)) (hb : Below w.heap.size w w') : PostInts w r (.returned (.tuple #[.slice none 0 0, .bool false])) w' :=
  postInts hr (Own.nil _ _) hb
/-- Two bools. -/
def PostBools (w : World) (r : Bool × Bool) (e : Ending) (w' : World) : Prop := e = .returned (.tuple #[.bool r.1, .bool r.2]) ∧ Below w.heap.size w w'
theorem postBools {w w' : World} {r : Bool × Bool} {x ok : Bool} (hr : r = (x, ok)) (hb : Below w.heap.size w w') : PostBools w r (.returned (.tuple #[.bool x, .bool ok])) w' := by subst hr; exact ⟨rfl, hb⟩
/-- A number and a bool. -/
def PostInt (w : World) (r : Int × Bool) (e : Ending) (w' : World) : Prop := e = .returned (.tuple #[.int .i64 r.1, .bool r.2]) ∧ Below w.heap.size w w'
theorem postInt {w w' : World} {r : Int × Bool} {x : Int} {ok : Bool} (hr : r = (x, ok)) (hb : Below w.heap.size w w') : PostInt w r (.returned (.tuple #[.int .i64 x, .bool ok])) w' := by subst hr; exact ⟨rfl, hb⟩
/-- A bool. -/
def PostBool (w : World) (x : Bool) (e : Ending) (w' : World) : Prop := e = .returned (.bool x) ∧ Below w.heap.size w w'
theorem postBool {w w' : World} {x y : Bool} (h : y = x) (hb : Below w.heap.size w w') : PostBool w x (.returned (.bool y)) w' := ⟨ret_bool h, hb⟩
end Go.Proofs.Ytakadjhbomggbab

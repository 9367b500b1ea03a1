/- Chapter 4: labels of heights, by their contracts. -/
import Derived.Test.YtfkejkkplafciadWkQ
import Derived.Test.YtfkejkkplafciadSpecTw
import Derived.Test.YtfkejkkplafciadSpecO
import Derived.Test.YtfkejkkplafciadRows2
namespace Go.Proofs.Ytfkejkkplafciad
open Go.RowKit

theorem run_up2 {hs : List Int} {k : Nat} (h0 : 0 < k) (h : nth hs k = nth hs (k - 1) + 1) : runAt hs (k + 1) = runAt hs k + 1 := by simp [runAt, raisedB, h, h0]
theorem run_flat2 {hs : List Int} {k : Nat} (_h0 : 0 < k) (h : ¬ nth hs k = nth hs (k - 1) + 1) : runAt hs (k + 1) = 1 := by simp [runAt, raisedB, h]

/-- A walk and a bool. -/
def PostWalk (w : World) (r : (List Int × List Int) × Bool) (e : Ending) (w' : World) : Prop :=
  ∃ a n c b m d, e = .returned (.tuple #[.agg #[.slice a n c, .slice b m d], .bool r.2]) ∧ Own w' w.heap.size a n c r.1.1 ∧ Own w' w.heap.size b m d r.1.2 ∧ Apart2 a b ∧ Below w.heap.size w w'
theorem postWalk {w w' : World} {r : (List Int × List Int) × Bool} {xs ys : List Int} {ok : Bool} {a b : Option Addr} {n c m d : Nat} (hr : r = ((xs, ys), ok)) (h : Own w' w.heap.size a n c xs) (h' : Own w' w.heap.size b m d ys) (hap : Apart2 a b) (hb : Below w.heap.size w w') :
    PostWalk w r (.returned (.tuple #[.agg #[.slice a n c, .slice b m d], .bool ok])) w' := by subst hr; exact ⟨_, _, _, _, _, _, rfl, h, h', hap, hb⟩
theorem postWalk_no {w w' : World} {r : (List Int × List Int) × Bool} (hr : r = (([], []), false)) (hb : Below w.heap.size w w') : PostWalk w r (.returned (.tuple #[.agg #[.slice none 0 0, .slice none 0 0], .bool false])) w' :=
  postWalk hr (Own.nil _ _) (Own.nil _ _) (apart_none _) hb

/-- The first k numbers are their indices. -/
def IxAt (ys : List Int) (k : Nat) : Prop := ∀ i, i < k → nth ys i = (i : Int)
theorem ix_all {ys : List Int} {n : Nat} (h : IxAt ys n) (hl : ys.length = n) : ys = upto n := ext_nth (by rw [hl, length_upto]) fun i hi => by rw [h i (by omega), nth_upto (by omega)]
theorem ix_step {ys : List Int} {k n : Nat} (h : IxAt ys k) (hl : ys.length = n) (hk : k < n) : IxAt (ys.set k (k : Int)) (k + 1) := fun i hi => by
  rw [nth_set (by omega)]
  split
  · subst_vars; rfl
  · exact h i (by omega)
set_option maxHeartbeats 1000000 in
theorem indicesOf_any (n : Nat) (w : World) (hn : n ≤ 1000) :
    Calls Try.prog 112 #[.int .i64 n] w fun e w' => ∃ a' cap', e = .returned (.slice a' n cap') ∧ Own w' w.heap.size a' n cap' (upto n) ∧ Below w.heap.size w w' := by
  go_enter Try.func112, Try.ntmps112
  go_wp2_with (at_make; refine wpList_make_ints _ rfl _ _ rfl n rfl rfl (by omega) ?_; intro a' cap' w1 hown1 hb1)
  go_loopw [9] (fun i wr => ∃ (k : Nat) (ys : List Int), k ≤ n ∧ i = .int .i64 k ∧ Own wr w.heap.size a' n cap' ys ∧ Hid (IxAt ys k) ∧ Below w.heap.size w wr) (fun i _ => n - (intOf i).toNat)
  case atStart => exact ⟨0, _, Nat.zero_le _, rfl, hown1, hid (fun i hi => by omega), hb1⟩
  case round =>
    obtain ⟨k, ys, hk, rfl, hown, HS, hb⟩ := hrel
    clear hown1 hb1
    by_cases hlt : k < n
    · obtain ⟨g, rfl, hg1, hg2, hg3, hg4⟩ := hown.opened (by omega)
      have hgx := hg3 k hlt
      have hgf := hg4 k
      obtain ⟨s1, s2⟩ := hown.set k (k : Int)
      have HS2 := hid (ix_step HS.out hown.len hlt)
      have hb2 := hb.setCell (p := ⟨g, k, none⟩) hg1 (.int .i64 (k : Int))
      clear hg3 hg4
      go_wp2_with fail
      go_roundw
      case rel => exact ⟨k + 1, _, by omega, by go_num, s1, HS2, hb2⟩
      case measure => simp [intOf]; omega
    · obtain rfl : k = n := by omega
      have HE := hid (ix_all HS.out hown.len)
      go_wp2_with fail
      go_ret
      exact ⟨_, _, rfl, by rw [← HE.out]; exact hown, hb⟩

theorem Own.setNe {w : World} {B g i n cap : Nat} {a : Option Addr} {xs : List Int} (h : Own w B a n cap xs) (hg : ∀ p, a = some p → p.block ≠ g) (u : Value) : Own (w.setCell ⟨g, i, none⟩ u) B a n cap xs := by
  refine ⟨?_, h.2⟩
  have h1 := h.1
  refine ⟨by simpa using h1.1, ?_⟩
  rcases h1.2 with h2 | ⟨k, cap', cur, hv, hk, hh, r⟩
  · exact .inl h2
  · refine .inr ⟨k, cap', cur, hv, hk, ?_, r⟩
    simp at hv
    have := hg _ hv.1
    rw [Below.heap_setCell _ _ _ _ (by simpa using this)]
    exact hh
theorem BlkLt.mono {a : Option Addr} {K K' : Nat} (h : BlkLt a K) (hK : K ≤ K') : BlkLt a K' := fun p hp => Nat.lt_of_lt_of_le (h p hp) hK
theorem BlkLt.ne {a : Option Addr} {K g : Nat} (h : BlkLt a K) (hg : K ≤ g) : ∀ p, a = some p → p.block ≠ g := fun p hp e => by have := h p hp; omega
theorem BlkGe.ne {a : Option Addr} {K g : Nat} (h : BlkGe a K) (hg : g < K) : ∀ p, a = some p → p.block ≠ g := fun p hp e => by have := h p hp; omega

end Go.Proofs.Ytfkejkkplafciad

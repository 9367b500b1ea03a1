/- Draws of lists to stretch. -/
import Derived.Test.YtnddplldkgphnacDrawLl
namespace Go.Proofs.Ytnddplldkgphnac
open Go.RowKit

theorem Own.pre {w : World} {B : Nat} {a : Option Addr} {n cap : Nat} {xs : List Int} (h : Own w B a n cap xs) {k : Nat} (hk : k ≤ n) : Own w B a k cap (xs.take k) := by
  obtain ⟨⟨h1, h2⟩, h0, h3⟩ := h
  refine ⟨⟨by simp; omega, ?_⟩, by simp; omega, by omega⟩
  rcases h2 with ⟨hv, hn⟩ | ⟨g, cap', cur, hv, hg, hh, hnc, hcm, hcs, htake⟩
  · simp at hv
    obtain ⟨rfl, hl, rfl⟩ := hv
    obtain rfl : k = 0 := by omega
    exact .inl ⟨rfl, rfl⟩
  · simp at hv
    obtain ⟨rfl, rfl⟩ := hv
    refine .inr ⟨g, cap, cur, rfl, hg, hh, by omega, hcm, hcs, ?_⟩
    have := congrArg (List.take (k * 1)) htake
    rw [List.take_take, Nat.min_eq_left (by omega)] at this
    rw [this]
    simp
theorem Own.belowLt {w w' : World} {B K : Nat} {a : Option Addr} {n cap : Nat} {xs : List Int} (h : Own w B a n cap xs) (hb : Below K w w') (hl : BlkLt a K) : Own w' B a n cap xs := by
  obtain ⟨⟨h1, h2⟩, h3⟩ := h
  refine ⟨⟨h1, ?_⟩, h3⟩
  rcases h2 with h2 | ⟨g, cap', cur, hv, hg, hh, r⟩
  · exact .inl h2
  · simp at hv
    have := hl _ hv.1
    exact .inr ⟨g, cap', cur, by simp [hv], hg, by rw [hb.block g (by simpa using this)]; exact hh, r⟩
/-- Two lists, the call's own. -/
def DrewStr (w : World) (e : Ending) (w' : World) : Prop := ∃ a n cap xs b m capl ls, e = .returned (.tuple #[.slice a n cap, .slice b m capl]) ∧ Own w' w.heap.size a n cap xs ∧ Own w' w.heap.size b m capl ls ∧ n ≤ 10 ∧ m ≤ 10 ∧ Below w.heap.size w w'
set_option maxRecDepth 100000 in
set_option maxHeartbeats 2000000 in
theorem drawStretch_any (a : Option Addr) (n cap : Nat) (w : World) (h : HasB w a n w.heap.size) :
    Calls Try.prog 23 #[.slice a n cap] w (DrewStr w) := by
  have C0 := cur_new (cap := cap) h
  have hb0 := freshL w a n cap
  obtain ⟨w1, hw1⟩ : ∃ w1, w.alloc (.cells #[.slice a n cap, .int .i64 0, .int .u64 0] 64) = w1 := ⟨_, rfl⟩
  have hs1 : w1.heap.size = w.heap.size + 1 := by rw [← hw1]; simp
  rw [hw1] at C0 hb0
  have HW := hid hw1
  clear hw1
  go_enter Try.func23, Try.ntmps23
  go_wp2_with fail
  rw [HW.out]
  clear HW
  refine (park_cur _ 0 5 _ C0 (by omega) (by omega) (by omega)).mono ?_
  rintro e w2 ⟨a1, n1, c1, xs, t2, rfl, o, hn, -, A2, ht2⟩
  have hs2 := A2.size
  have hlt := o.lt
  go_wp2_with fail
  refine (lengths_cur _ t2 5 _ A2.cur (by omega) (by omega)).mono ?_
  rintro e w3 ⟨b, m, capl, ls, t3, rfl, oL, hm9, A3, ht3⟩
  have hs3 := A3.size
  have oX := o.kept A3.grew (.inl (by omega))
  have A23 := A2.trans A3
  clear o
  by_cases hc : n1 < m
  · have hc2 : (n1 : Int) < (m : Int) := by omega
    have hL0 := oL.has
    replace oL := oL.pre (k := n1) (by omega)
    have hcap : n1 ≤ capl := by have := hL0.2.1; omega
    have hn0 : (0 : Int) ≤ (n1 : Int) := by omega
    go_wp2_with fail
    refine (one_cur _ t3 6 _ A3.cur (by omega) (by omega)).mono ?_
    rintro e w4 ⟨bb, rfl, ⟨t4, u1, u2, hc4⟩, hg4⟩
    have A4 := A23.pick hc4 hg4
    have A4' := A3.pick hc4 hg4
    have hs4 := A4'.size
    have oL4 := oL.kept hg4 (.inl (by omega))
    have oX4 := oX.kept hg4 (.inl (by omega))
    have hb4 := hb0.trans A4.below
    clear hc4 hg4 oL oX
    cases bb with
    | true =>
      go_wp2_with fail
      go_ret2
      exact ⟨_, _, _, _, _, _, _, _, rfl, oX4.mono (by omega), oL4.mono (by omega), by omega, by omega, hb4⟩
    | false =>
      go_wp2_with fail
      go_loopg [6] (10 - n1) (fun q l wr => ∃ (j : Nat) (b' : Option Addr) (cl : Nat) (ys : List Int), j + q = 10 ∧ l = .slice b' j cl ∧ Own wr w2.heap.size b' j cl ys ∧ Own wr w1.heap.size a1 n1 c1 xs ∧ w2.heap.size ≤ wr.heap.size ∧ Below w.heap.size w wr)
      case atStart => exact ⟨n1, b, capl, _, by omega, rfl, oL4, oX4, hs4, hb4⟩
      case round =>
        obtain ⟨j, b', cl, ys, hjq, rfl, o5, o6, hs5, hb5⟩ := hrel
        clear oL4 oX4
        by_cases hj : j < n1
        · have hj2 : (j : Int) < (n1 : Int) := by omega
          by_cases h8 : n1 ≤ 8
          · have h82 : (n1 : Int) ≤ 8 := by omega
            go_wp2_with (at_builtin; refine wpList_append_int _ rfl _ _ rfl w2.heap.size _ _ _ _ _ rfl rfl o5 (by omega) hs5 ?_; intro a7 cap7 w7 o7 hb7)
            have o8 := o6.belowLt hb7 hlt
            have hs7 := hb7.size
            go_roundg (gk - 1)
            case rel => exact ⟨j + 1, a7, cap7, _, by omega, rfl, o7, o8, by omega, hb5.trans (hb7.mono (by omega))⟩
            case measure => omega
          · have h82 : ¬ (n1 : Int) ≤ 8 := by omega
            go_wp2_with fail
            go_ret2
            exact ⟨_, _, _, _, _, _, _, _, rfl, o6.mono (by omega), o5.mono (by omega), by omega, by omega, hb5⟩
        · have hj2 : ¬ (j : Int) < (n1 : Int) := by omega
          go_wp2_with fail
          go_ret2
          exact ⟨_, _, _, _, _, _, _, _, rfl, o6.mono (by omega), o5.mono (by omega), by omega, by omega, hb5⟩
  · have hc2 : ¬ (n1 : Int) < (m : Int) := by omega
    go_wp2_with fail
    refine (one_cur _ t3 6 _ A3.cur (by omega) (by omega)).mono ?_
    rintro e w4 ⟨bb, rfl, ⟨t4, u1, u2, hc4⟩, hg4⟩
    have A4 := A23.pick hc4 hg4
    have A4' := A3.pick hc4 hg4
    have hs4 := A4'.size
    have oL4 := oL.kept hg4 (.inl (by omega))
    have oX4 := oX.kept hg4 (.inl (by omega))
    have hb4 := hb0.trans A4.below
    clear hc4 hg4 oL oX
    cases bb with
    | true =>
      go_wp2_with fail
      go_ret2
      exact ⟨_, _, _, _, _, _, _, _, rfl, oX4.mono (by omega), oL4.mono (by omega), by omega, by omega, hb4⟩
    | false =>
      go_wp2_with fail
      go_loopg [6] (10 - m) (fun q l wr => ∃ (j : Nat) (b' : Option Addr) (cl : Nat) (ys : List Int), j + q = 10 ∧ l = .slice b' j cl ∧ Own wr w2.heap.size b' j cl ys ∧ Own wr w1.heap.size a1 n1 c1 xs ∧ w2.heap.size ≤ wr.heap.size ∧ Below w.heap.size w wr)
      case atStart => exact ⟨m, b, capl, _, by omega, rfl, oL4, oX4, hs4, hb4⟩
      case round =>
        obtain ⟨j, b', cl, ys, hjq, rfl, o5, o6, hs5, hb5⟩ := hrel
        clear oL4 oX4
        by_cases hj : j < n1
        · have hj2 : (j : Int) < (n1 : Int) := by omega
          by_cases h8 : n1 ≤ 8
          · have h82 : (n1 : Int) ≤ 8 := by omega
            go_wp2_with (at_builtin; refine wpList_append_int _ rfl _ _ rfl w2.heap.size _ _ _ _ _ rfl rfl o5 (by omega) hs5 ?_; intro a7 cap7 w7 o7 hb7)
            have o8 := o6.belowLt hb7 hlt
            have hs7 := hb7.size
            go_roundg (gk - 1)
            case rel => exact ⟨j + 1, a7, cap7, _, by omega, rfl, o7, o8, by omega, hb5.trans (hb7.mono (by omega))⟩
            case measure => omega
          · have h82 : ¬ (n1 : Int) ≤ 8 := by omega
            go_wp2_with fail
            go_ret2
            exact ⟨_, _, _, _, _, _, _, _, rfl, o6.mono (by omega), o5.mono (by omega), by omega, by omega, hb5⟩
        · have hj2 : ¬ (j : Int) < (n1 : Int) := by omega
          go_wp2_with fail
          go_ret2
          exact ⟨_, _, _, _, _, _, _, _, rfl, o6.mono (by omega), o5.mono (by omega), by omega, by omega, hb5⟩
end Go.Proofs.Ytnddplldkgphnac

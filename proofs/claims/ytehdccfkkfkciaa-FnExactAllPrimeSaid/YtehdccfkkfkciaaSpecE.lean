/- The model's functions of chapter 1, by their contracts: cuts and joins. -/
import Derived.Test.YtehdccfkkfkciaaSpecO
namespace Go.Proofs.Ytehdccfkkfkciaa
open Go.RowKit

theorem cut_from {xs : List Int} {n j : Nat} (hn : xs.length = n) (h1 : 1 ≤ j) : isCut xs j = ((n : Int) - (from' xs j : Int) == (j : Int)) := by
  have := from_below xs j
  unfold isCut
  rw [Bool.eq_iff_iff]
  simp
  omega

theorem idxs_one {f : Nat → Bool} (h : f 0 = false) : idxs f 1 = [] := by simp [idxs, List.range_succ, h]

set_option maxHeartbeats 800000 in
theorem paCuts_any (a : Option Addr) (n cap : Nat) (xs : List Int) (w : World) (h : Has w a n cap xs) :
    Calls Try.prog 36 #[.slice a n cap] w fun e w' => ∃ a' m cap', e = .returned (.slice a' m cap') ∧ Own w' w.heap.size a' m cap' (idxs (isCut xs) n) ∧ Below w.heap.size w w' := by
  have hlen := h.len
  have hle := h.le
  go_enter Try.func36, Try.ntmps36
  go_wp2_with fail
  go_loopw [3, 4] (fun o j wr => ∃ (k m : Nat) (a' : Option Addr) (cap' : Nat), 1 ≤ k ∧ (k ≤ n ∨ k = 1) ∧ m ≤ k ∧ j = .int .i64 k ∧ o = .slice a' m cap' ∧ Own wr w.heap.size a' m cap' (idxs (isCut xs) k) ∧ Below w.heap.size w wr) (fun _ j _ => n - (intOf j).toNat)
  case atStart => exact ⟨1, 0, none, 0, by omega, .inr rfl, by omega, rfl, rfl, by rw [idxs_one rfl]; exact Own.nil _ _, Below.refl _ _⟩
  case round =>
    obtain ⟨k, m, a', cap', hk1, hk, hm, rfl, rfl, hown, hb⟩ := hrel
    by_cases hlt : k < n
    · have HS := hid (idxs_succ (isCut xs) k)
      have HC := hid (cut_from (n := n) hlen hk1)
      have hfl := from_le xs k
      rw [hlen] at hfl
      by_cases ht : ((n : Int) - (from' xs k : Int) == (k : Int)) = true
      · rw [HC.out, if_pos ht] at HS
        go_wp2_with (first | (go_at_call 60; refine (paFrom_any _ _ _ _ _ _ (h.below hb (Nat.le_refl _))).mono ?_; rintro e w' ⟨rfl, rfl⟩) | (at_builtin; refine wpList_append_int _ rfl _ _ rfl w.heap.size _ _ _ _ _ rfl rfl hown (by omega) hb.size ?_; intro a2 cap2 w2 hown2 hb2))
        go_roundw
        case rel => exact ⟨k + 1, m + 1, a2, cap2, by omega, by omega, by omega, by go_num, rfl, by rw [HS.out]; exact hown2, hb.trans hb2⟩
        case measure => simp [intOf]; omega
      · have ht' : ((n : Int) - (from' xs k : Int) == (k : Int)) = false := Bool.eq_false_iff.2 ht
        rw [HC.out, if_neg ht, List.append_nil] at HS
        clear ht
        go_wp2_with (go_at_call 60; refine (paFrom_any _ _ _ _ _ _ (h.below hb (Nat.le_refl _))).mono ?_; rintro e w' ⟨rfl, rfl⟩)
        go_roundw
        case rel => exact ⟨k + 1, m, _, _, by omega, by omega, by omega, by go_num, rfl, by rw [HS.out]; exact hown, hb⟩
        case measure => simp [intOf]; omega
    · have he : idxs (isCut xs) k = idxs (isCut xs) n := by
        rcases hk with hk | rfl
        · rw [show k = n by omega]
        · rcases (show n = 0 ∨ n = 1 by omega) with rfl | rfl
          · rw [idxs_one rfl]; rfl
          · rfl
      rw [he] at hown
      clear he
      go_wp2_with fail
      go_ret
      exact ⟨_, _, _, rfl, hown, hb⟩

/-- What b's numbers become. -/
def shifted (ys : List Int) (d : Int) : List Int := ys.map (· + d)
theorem shifted_succ {ys : List Int} {d : Int} {k : Nat} (h : k < ys.length) : (shifted ys d).take (k + 1) = (shifted ys d).take k ++ [nth ys k + d] := by
  rw [take_succ_nth (by simpa [shifted] using h)]
  simp [shifted, nth, h]
theorem length_shifted (ys : List Int) (d : Int) : (shifted ys d).length = ys.length := by simp [shifted]
theorem join_yes {xs ys : List Int} {n m : Nat} (hn : xs.length = n) (hm : ys.length = m) (hx : isPark xs = true) (hy : isPark ys = true) (h : n + m ≤ 8) : joinOf xs ys = (xs ++ shifted ys n, true) := by
  simp [joinOf, hx, hy, hn, hm, h, shifted]
theorem park_bounds {ys : List Int} {m : Nat} (hm : ys.length = m) (h : isPark ys = true) : ∀ i, i < m → 0 ≤ nth ys i ∧ nth ys i ≤ (m : Int) - 1 := by
  intro i hi
  have := (isPark_iff.1 h).2.1 _ (nth_mem (xs := ys) (i := i) (by omega))
  omega

end Go.Proofs.Ytehdccfkkfkciaa

/- The model's functions of chapter 1, by their contracts: cuts and joins. -/
import Derived.Test.YtheihclganjhaaaSpecD
namespace Go.Proofs.Ytheihclganjhaaa
open Go.RowKit

theorem cut_from {xs : List Int} {n j : Nat} (hn : xs.length = n) (h1 : 1 ≤ j) : isCut xs j = ((n : Int) - (from' xs j : Int) == (j : Int)) := by
  have := from_below xs j
  unfold isCut
  rw [Bool.eq_iff_iff]
  simp
  omega

theorem idxs_one {f : Nat → Bool} (h : f 0 = false) : idxs f 1 = [] := by simp [idxs, List.range_succ, h]

set_option maxHeartbeats 800000 in
theorem paCuts_any (a : Option Addr) (n cap : Nat) (xs : List Int) (w : World) (h : Has w a n cap xs) :
    Calls Try.prog 58 #[.slice a n cap] w fun e w' => ∃ a' m cap', e = .returned (.slice a' m cap') ∧ Own w' w.heap.size a' m cap' (idxs (isCut xs) n) ∧ Below w.heap.size w w' := by
  have hlen := h.len
  have hle := h.le
  go_enter Try.func58, Try.ntmps58
  go_wp2_with fail
  go_loopw [3, 4] (fun o j wr => ∃ (k m : Nat) (a' : Option Addr) (cap' : Nat), 1 ≤ k ∧ (k ≤ n ∨ k = 1) ∧ m ≤ k ∧ j = .int .i64 k ∧ o = .slice a' m cap' ∧ Own wr w.heap.size a' m cap' (idxs (isCut xs) k) ∧ Below w.heap.size w wr) (fun _ j _ => n - (intOf j).toNat)
  case atStart => exact ⟨1, 0, none, 0, by omega, .inr rfl, by omega, rfl, rfl, by rw [idxs_one rfl]; exact Own.nil _ _, Below.refl _ _⟩
  case round =>
    obtain ⟨k, m, a', cap', hk1, hk, hm, rfl, rfl, hown, hb⟩ := hrel
    by_cases hlt : k < n
    · have HS := hid (idxs_succ (isCut xs) k)
      have HC := hid (cut_from (n := n) hlen hk1)
      have hfl := from_le xs k
      rw [hlen] at hfl
      by_cases ht : ((n : Int) - (from' xs k : Int) == (k : Int)) = true
      · rw [HC.out, if_pos ht] at HS
        go_wp2_with (first | (go_at_call 52; refine (paFrom_any _ _ _ _ _ _ (h.below hb (Nat.le_refl _))).mono ?_; rintro e w' ⟨rfl, rfl⟩) | (at_builtin; refine wpList_append_int _ rfl _ _ rfl w.heap.size _ _ _ _ _ rfl rfl hown (by omega) hb.size ?_; intro a2 cap2 w2 hown2 hb2))
        go_roundw
        case rel => exact ⟨k + 1, m + 1, a2, cap2, by omega, by omega, by omega, by go_num, rfl, by rw [HS.out]; exact hown2, hb.trans hb2⟩
        case measure => simp [intOf]; omega
      · have ht' : ((n : Int) - (from' xs k : Int) == (k : Int)) = false := Bool.eq_false_iff.2 ht
        rw [HC.out, if_neg ht, List.append_nil] at HS
        clear ht
        go_wp2_with (go_at_call 52; refine (paFrom_any _ _ _ _ _ _ (h.below hb (Nat.le_refl _))).mono ?_; rintro e w' ⟨rfl, rfl⟩)
        go_roundw
        case rel => exact ⟨k + 1, m, _, _, by omega, by omega, by omega, by go_num, rfl, by rw [HS.out]; exact hown, hb⟩
        case measure => simp [intOf]; omega
    · have he : idxs (isCut xs) k = idxs (isCut xs) n := by
        rcases hk with hk | rfl
        · rw [show k = n by omega]
        · rcases (show n = 0 ∨ n = 1 by omega) with rfl | rfl
          · rw [idxs_one rfl]; rfl
          · rfl
      rw [he] at hown
      clear he
      go_wp2_with fail
      go_ret
      exact ⟨_, _, _, rfl, hown, hb⟩

set_option maxHeartbeats 400000 in
theorem specCutsOf_any (a : Option Addr) (n cap : Nat) (xs : List Int) (w : World) (h : Has w a n cap xs) :
    Calls Try.prog 39 #[.slice a n cap] w (PostInts w (cutsOf xs)) := by
  have HL := hid h.len
  by_cases hg : isPark xs = true
  · have HR : Hid (cutsOf xs = (idxs (isCut xs) xs.length, true)) := hid (by simp [cutsOf, hg])
    have HG := hid hg
    clear hg
    go_enter Try.func39, Try.ntmps39
    go_wp2_with (go_at_call 50; refine (paParking_any _ _ _ _ _ h).mono ?_; rintro e w1 ⟨rfl, hb1⟩; rw [HG.out])
    refine (paCuts_any _ _ _ _ _ (h.below hb1 (Nat.le_refl _))).mono ?_
    rintro e w2 ⟨a2, n2, cap2, rfl, hown2, hb2⟩
    go_wp2_with fail
    go_ret2
    exact postInts (by rw [HR.out, HL.out]) (hown2.mono hb1.size) (hb1.trans (hb2.mono hb1.size))
  · have HR : Hid (cutsOf xs = ([], false)) := hid (by simp [cutsOf, hg])
    have HG := hid hg
    clear hg
    go_enter Try.func39, Try.ntmps39
    go_wp2_with (go_at_call 50; refine (paParking_any _ _ _ _ _ h).mono ?_; rintro e w1 ⟨rfl, hb1⟩; rw [Bool.eq_false_iff.2 HG.out])
    go_ret2
    exact postInts_no HR.out hb1

theorem own_lit0 (w : World) (B : Nat) (hB : B ≤ w.heap.size) : Own (w.alloc (.cells #[] 3)) B (some ⟨w.heap.size, 0, none⟩) 0 0 [] :=
  ⟨World.ownsRow_lit w #[] 0 hB (by unfold maxLen; omega) (by simp), by simp⟩

set_option maxHeartbeats 400000 in
theorem l1Own_any (a : Option Addr) (n cap : Nat) (xs : List Int) (w : World) (h : Has w a n cap xs) :
    Calls Try.prog 59 #[.slice a n cap] w fun e w' => ∃ a' cap', e = .returned (.slice a' n cap') ∧ Own w' w.heap.size a' n cap' xs ∧ Below w.heap.size w w' := by
  have hle := h.le
  have hb0 : Below w.heap.size w (w.alloc (.cells #[] 3)) := (Below.refl _ _).alloc (Nat.le_refl _) _
  go_enter Try.func59, Try.ntmps59
  go_wp2_with (at_builtin; refine wpList_append_ints _ rfl _ _ rfl w.heap.size _ _ _ _ _ _ [] xs rfl rfl (own_lit0 w _ (Nat.le_refl _)) (h.below hb0 (Nat.le_refl _)) (by omega) (by simp) ?_; intro a2 n2 cap2 w2 hn2 hown2 hb2)
  go_ret
  obtain rfl : n2 = n := by omega
  exact ⟨_, _, rfl, by simpa using hown2, hb0.trans hb2⟩

/-- What b's numbers become. -/
def shifted (ys : List Int) (d : Int) : List Int := ys.map (· + d)
theorem shifted_succ {ys : List Int} {d : Int} {k : Nat} (h : k < ys.length) : (shifted ys d).take (k + 1) = (shifted ys d).take k ++ [nth ys k + d] := by
  rw [take_succ_nth (by simpa [shifted] using h)]
  simp [shifted, nth, h]
theorem length_shifted (ys : List Int) (d : Int) : (shifted ys d).length = ys.length := by simp [shifted]
theorem join_yes {xs ys : List Int} {n m : Nat} (hn : xs.length = n) (hm : ys.length = m) (hx : isPark xs = true) (hy : isPark ys = true) (h : n + m ≤ 8) : joinOf xs ys = (xs ++ shifted ys n, true) := by
  simp [joinOf, hx, hy, hn, hm, h, shifted]
theorem park_bounds {ys : List Int} {m : Nat} (hm : ys.length = m) (h : isPark ys = true) : ∀ i, i < m → 0 ≤ nth ys i ∧ nth ys i ≤ (m : Int) - 1 := by
  intro i hi
  have := (isPark_iff.1 h).2.1 _ (nth_mem (xs := ys) (i := i) (by omega))
  omega

set_option maxHeartbeats 1600000 in
theorem specJoin_any (a b : Option Addr) (n m cap cap' : Nat) (xs ys : List Int) (w : World) (h : Has w a n cap xs) (h' : Has w b m cap' ys) :
    Calls Try.prog 41 #[.slice a n cap, .slice b m cap'] w (PostInts w (joinOf xs ys)) := by
  have hlx := h.len
  have hly := h'.len
  have hlex := h.le
  have hley := h'.le
  by_cases hx : isPark xs = true
  · have HX := hid hx
    by_cases hy : isPark ys = true
    · have HY := hid hy
      by_cases hnm : n + m ≤ 8
      · have HR := hid (join_yes hlx hly hx hy hnm)
        have hbd := park_bounds hly hy
        clear hx hy
        go_enter Try.func41, Try.ntmps41
        go_wp2_with fail
        refine (paParking_any _ _ _ _ _ h).mono ?_
        rintro e w1 ⟨rfl, hb1⟩
        rw [HX.out]
        go_wp2_with fail
        refine (paParking_any _ _ _ _ _ (h'.below hb1 (Nat.le_refl _))).mono ?_
        rintro e w2 ⟨rfl, hb2⟩
        rw [HY.out]
        have hbb := hb1.trans (hb2.mono hb1.size)
        go_wp2_with fail
        refine (l1Own_any _ _ _ _ _ (h.below hbb (Nat.le_refl _))).mono ?_
        rintro e w3 ⟨a3, cap3, rfl, hown3, hb3⟩
        have hbc := hbb.trans (hb3.mono hbb.size)
        obtain ⟨k0, k1, k2, k3, k4⟩ := h'.below hbc (Nat.le_refl _)
        have hsz := hbb.size
        have hsz3 := hb3.size
        have HLY := hid k0
        clear k0 hly hlx hb1 hb2
        go_wp2_with fail
        go_loopw [6, 29] (fun o i wr => ∃ (k : Nat) (a' : Option Addr) (cap' : Nat), k ≤ m ∧ i = .int .i64 k ∧ o = .slice a' (n + k) cap' ∧ Own wr w2.heap.size a' (n + k) cap' (xs ++ (shifted ys n).take k) ∧ Below w2.heap.size w3 wr) (fun _ i _ => m - (intOf i).toNat)
        case atStart => exact ⟨0, _, _, Nat.zero_le _, rfl, rfl, by simpa using hown3, Below.refl _ _⟩
        case round =>
          obtain ⟨k, a', cap', hk, rfl, rfl, hown, hb⟩ := hrel
          by_cases hlt : k < m
          · obtain ⟨b2, off2, rfl, hbb2, hc2⟩ := k4 (by omega)
            have hblk : b2 < w.heap.size := by
              obtain ⟨_, _, _, _, q4⟩ := h'
              obtain ⟨b5, off5, e5, hlt5, _⟩ := q4 (by omega)
              simp at e5
              omega
            have hdk : wr.cell? ⟨b2, off2 + k, none⟩ = some (.int .i64 (nth ys k)) := by rw [hb.cell (p := ⟨b2, off2 + k, none⟩) (by simp; omega)]; exact hc2 k hlt
            obtain ⟨hv0, hv1⟩ := hbd k hlt
            have HS := hid (shifted_succ (ys := ys) (d := n) (k := k) (by rw [HLY.out]; omega))
            have hszr := hb.size
            clear hc2 k4 hbd
            go_wp2_with (at_builtin; refine wpList_append_int _ rfl _ _ rfl w2.heap.size _ _ _ _ _ rfl rfl hown (by omega) (by omega) ?_; intro a4 cap4 w4 hown4 hb4)
            go_roundw
            case rel => exact ⟨k + 1, a4, cap4, by omega, by go_num, rfl, by rw [HS.out, ← List.append_assoc]; exact hown4, hb.trans hb4⟩
            case measure => simp [intOf]; omega
          · obtain rfl : k = m := by omega
            rw [List.take_of_length_le (by rw [length_shifted, HLY.out]; omega)] at hown
            go_wp2_with fail
            go_ret2
            exact postInts HR.out (hown.mono hsz) (hbc.trans (hb.mono hsz))
      · have HR : Hid (joinOf xs ys = ([], false)) := hid (by simp [joinOf, hlx, hly, hnm])
        clear hx hy
        go_enter Try.func41, Try.ntmps41
        go_wp2_with fail
        refine (paParking_any _ _ _ _ _ h).mono ?_
        rintro e w1 ⟨rfl, hb1⟩
        rw [HX.out]
        go_wp2_with fail
        refine (paParking_any _ _ _ _ _ (h'.below hb1 (Nat.le_refl _))).mono ?_
        rintro e w2 ⟨rfl, hb2⟩
        rw [HY.out]
        go_wp2_with fail
        go_ret2
        exact postInts_no HR.out (hb1.trans (hb2.mono hb1.size))
    · have HR : Hid (joinOf xs ys = ([], false)) := hid (by simp [joinOf, hy])
      have HY := hid hy
      clear hy hx
      go_enter Try.func41, Try.ntmps41
      go_wp2_with fail
      refine (paParking_any _ _ _ _ _ h).mono ?_
      rintro e w1 ⟨rfl, hb1⟩
      rw [HX.out]
      go_wp2_with fail
      refine (paParking_any _ _ _ _ _ (h'.below hb1 (Nat.le_refl _))).mono ?_
      rintro e w2 ⟨rfl, hb2⟩
      rw [Bool.eq_false_iff.2 HY.out]
      go_wp2_with fail
      go_ret2
      exact postInts_no HR.out (hb1.trans (hb2.mono hb1.size))
  · have HR : Hid (joinOf xs ys = ([], false)) := hid (by simp [joinOf, hx])
    have HX := hid hx
    clear hx
    go_enter Try.func41, Try.ntmps41
    go_wp2_with fail
    refine (paParking_any _ _ _ _ _ h).mono ?_
    rintro e w1 ⟨rfl, hb1⟩
    rw [Bool.eq_false_iff.2 HX.out]
    go_wp2_with fail
    go_ret2
    exact postInts_no HR.out hb1
end Go.Proofs.Ytheihclganjhaaa

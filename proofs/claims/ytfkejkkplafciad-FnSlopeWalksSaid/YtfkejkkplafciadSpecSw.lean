/- The model's slope walks, by their contracts: turned walks, levels. -/
import Derived.Test.YtfkejkkplafciadSpecSl
import Derived.Test.YtfkejkkplafciadSam
namespace Go.Proofs.Ytfkejkkplafciad
open Go.RowKit

theorem quietB {w w' : World} {K : Nat} (h : Quiet w w') : Below K w w' := by
  obtain ⟨q, rfl⟩ := h
  exact below_drewN (Below.refl _ _) q
theorem good_len {xs : List Int} {n : Nat} {a : Int} (h : goodSl xs a = true) (hl : xs.length = n) : ∃ q : Nat, a = (q : Int) ∧ slN n q = true ∧ (1 ≤ n ∧ n ≤ 6) ∧ (1 ≤ q ∧ q ≤ 13) ∧ ∀ i, i < n → 0 ≤ nth xs i ∧ nth xs i < (q : Int) := by
  subst hl
  simp only [goodSl, Bool.and_eq_true] at h
  obtain ⟨q, rfl, h3, h4, h5⟩ := slB_parts h.1
  refine ⟨q, rfl, h3, h4, h5, fun i hi => ?_⟩
  rw [Int.toNat_natCast] at h
  have := und_len (bnds_bnd _ _) (by rw [length_bnds]) h.2 _ (nth_mem hi)
  have := numB_slope (n := xs.length) (a := q) h5.1
  omega

theorem slWalk_any (a : Option Addr) (n cap : Nat) (xs : List Int) (ac : Int) (w : World) (h : Has w a n cap xs) :
    Calls Try.prog 87 #[.slice a n cap, .int .i64 ac] w fun e w' => e = .returned (.bool (isWalkSl xs ac)) ∧ Below w.heap.size w w' := by
  by_cases hg : goodSl xs ac = true
  · have HR : Hid (isWalkSl xs ac = same (insSort xs) xs) := hid (by simp [isWalkSl, hg, same])
    obtain ⟨_, -, -, hn, -, -⟩ := good_len hg h.len
    have HG := hid hg
    clear hg
    go_enter Try.func87, Try.ntmps87
    go_wp2_with fail
    refine (slGood_any _ _ _ _ _ _ h).mono ?_
    rintro e w1 ⟨rfl, hb1⟩
    rw [HG.out]
    have h1 := h.below hb1 (Nat.le_refl _)
    go_wp2_with fail
    refine (paSorted_any _ _ _ _ _ h1 (by omega)).mono ?_
    rintro e w2 ⟨a2, cap2, rfl, hown2, hb2⟩
    have h2 := h1.below hb2 (Nat.le_refl _)
    have hbw := hb1.trans (hb2.mono hb1.size)
    go_wp2_with fail
    refine (l1Same_any _ _ _ _ _ _ _ _ _ hown2.has h2).mono ?_
    rintro e w3 ⟨rfl, hq⟩
    have hbw3 := hbw.trans (quietB (K := w.heap.size) hq)
    clear hq
    go_wp2_with fail
    go_ret
    exact ⟨ret_bool HR.out.symm, hbw3⟩
  · have HR : Hid (isWalkSl xs ac = false) := hid (by simp [isWalkSl, hg])
    have HG := hid (Bool.eq_false_iff.2 hg)
    clear hg
    go_enter Try.func87, Try.ntmps87
    go_wp2_with fail
    refine (slGood_any _ _ _ _ _ _ h).mono ?_
    rintro e w1 ⟨rfl, hb1⟩
    rw [HG.out]
    go_wp2_with fail
    go_ret
    exact ⟨ret_bool HR.out.symm, hb1⟩

theorem levelsL_succ (xs : List Int) (a : Int) (k : Nat) : levelsL xs a (k + 1) = levelsL xs a k ++ [(k : Int) * a - xs.length * nth xs k] := by simp [levelsL, List.range_succ]
theorem prodB {k n : Nat} {q : Nat} {x : Int} (hk : k ≤ 6) (hq : q ≤ 13) (hn : n ≤ 6) (x0 : 0 ≤ x) (x1 : x ≤ 13) : 0 ≤ (k : Int) * (q : Int) ∧ (k : Int) * (q : Int) ≤ 78 ∧ 0 ≤ (n : Int) * x ∧ (n : Int) * x ≤ 78 := by
  obtain ⟨y, rfl⟩ : ∃ y : Nat, x = (y : Int) := ⟨x.toNat, by omega⟩
  have h1 := Nat.mul_le_mul hk hq
  have h2 := Nat.mul_le_mul hn (show y ≤ 13 by omega)
  rw [← Int.natCast_mul, ← Int.natCast_mul]
  omega
theorem walk_good {xs : List Int} {a : Int} (h : isWalkSl xs a = true) : goodSl xs a = true := by
  simp only [isWalkSl, Bool.and_eq_true] at h
  exact h.1

set_option maxHeartbeats 800000 in
theorem specLevels_any (a : Option Addr) (n cap : Nat) (xs : List Int) (ac : Int) (w : World) (h : Has w a n cap xs) :
    Calls Try.prog 41 #[.slice a n cap, .int .i64 ac] w (PostInts w (levelsOf xs ac)) := by
  by_cases hg : isWalkSl xs ac = true
  · have HR : Hid (levelsOf xs ac = (levelsL xs ac n, true)) := hid (by simp [levelsOf, hg, h.len])
    obtain ⟨q, rfl, -, hn, hq, hx⟩ := good_len (walk_good hg) h.len
    have HG := hid hg
    have HL := hid h.len
    have HX := hid hx
    clear hg hx
    go_enter Try.func41, Try.ntmps41
    go_wp2_with fail
    refine (slWalk_any _ _ _ _ _ _ h).mono ?_
    rintro e w1 ⟨rfl, hb1⟩
    rw [HG.out]
    go_wp2_with fail
    go_loopw [6, 15] (fun o i wr => ∃ (k : Nat) (a' : Option Addr) (cap' : Nat), k ≤ n ∧ i = .int .i64 (k : Int) ∧ o = .slice a' k cap' ∧ Own wr w.heap.size a' k cap' (levelsL xs (q : Int) k) ∧ Below w.heap.size w wr) (fun _ i _ => n - (intOf i).toNat)
    case atStart => exact ⟨0, none, 0, Nat.zero_le _, rfl, rfl, Own.nil _ _, hb1⟩
    case round =>
      clear hb1
      obtain ⟨k, a', cap', hk, rfl, rfl, hown, hb⟩ := hrel
      by_cases hlt : k < n
      · obtain ⟨b, off, rfl, hbb, hc⟩ := h.2.2.2.2 (by omega)
        have hck : wr.cell? ⟨b, off + k, none⟩ = some (.int .i64 (nth xs k)) := by rw [hb.cell (p := ⟨b, off + k, none⟩) hbb]; exact hc k hlt
        have HS := hid (levelsL_succ xs (q : Int) k)
        obtain ⟨x0, x1⟩ := HX.out k hlt
        obtain ⟨p0, p1, p2, p3⟩ := prodB (k := k) (n := n) (q := q) (x := nth xs k) (by omega) hq.2 (by omega) x0 (by omega)
        have hsz := hb.size
        clear hc
        go_wp2_with (at_builtin; refine wpList_append_int _ rfl _ _ rfl w.heap.size _ _ _ _ _ rfl rfl hown (by omega) hsz ?_; intro a4 cap4 w4 hown4 hb4)
        go_roundw
        case rel => exact ⟨k + 1, a4, cap4, by omega, by go_num, rfl, by rw [HS.out, HL.out]; exact hown4, hb.trans hb4⟩
        case measure => simp [intOf]; omega
      · obtain rfl : n = k := by omega
        go_wp2_with fail
        go_ret2
        exact postInts HR.out hown hb
  · have HR : Hid (levelsOf xs ac = ([], false)) := hid (by simp [levelsOf, hg])
    have HG := hid (Bool.eq_false_iff.2 hg)
    clear hg
    go_enter Try.func41, Try.ntmps41
    go_wp2_with fail
    refine (slWalk_any _ _ _ _ _ _ h).mono ?_
    rintro e w1 ⟨rfl, hb1⟩
    rw [HG.out]
    go_wp2_with fail
    go_ret2
    exact postInts_no HR.out hb1

/-- The first numbers of the walk turned. -/
def turnWkL (xs : List Int) (a : Int) (k : Nat) : List Int := (List.range k).map fun (j : Nat) => (from' xs (a - j) : Int)
theorem turnWkL_succ (xs : List Int) (a : Int) (k : Nat) : turnWkL xs a (k + 1) = turnWkL xs a k ++ [(from' xs (a - k) : Int)] := by simp [turnWkL, List.range_succ]
theorem turnWk_yes {xs : List Int} {n q : Nat} (hg : isWalkSl xs q = true) (hs : slB (q : Int) (n : Int) = true) (hl : xs.length = n) : turnWkOf xs q = (turnWkL xs q q, true) := by
  subst hl
  simp [turnWkOf, hg, hs, turnWkL]

set_option maxHeartbeats 2000000 in
theorem specTurnWk_any (a : Option Addr) (n cap : Nat) (xs : List Int) (ac : Int) (w : World) (h : Has w a n cap xs) :
    Calls Try.prog 39 #[.slice a n cap, .int .i64 ac] w (PostInts w (turnWkOf xs ac)) := by
  by_cases hg : isWalkSl xs ac = true
  · obtain ⟨q, rfl, -, hn, hq, hx⟩ := good_len (walk_good hg) h.len
    by_cases hs : slB (q : Int) (n : Int) = true
    · have HR := hid (turnWk_yes hg hs h.len)
      have HG := hid hg
      have HS := hid hs
      have HL := hid h.len
      have HX := hid hx
      clear hg hx hs
      go_enter Try.func39, Try.ntmps39
      go_wp2_with fail
      refine (slWalk_any _ _ _ _ _ _ h).mono ?_
      rintro e w1 ⟨rfl, hb1⟩
      rw [HG.out]
      go_wp2_with (go_at_call 53; refine (slIs_any _ _ _).mono ?_; rintro e w' ⟨rfl, rfl⟩; rw [HS.out])
      go_loopw [6, 7] (fun o i wr => ∃ (k : Nat) (a' : Option Addr) (cap' : Nat), k ≤ q ∧ i = .int .i64 (k : Int) ∧ o = .slice a' k cap' ∧ Own wr w.heap.size a' k cap' (turnWkL xs (q : Int) k) ∧ Below w.heap.size w wr) (fun _ i _ => q - (intOf i).toNat)
      case atStart => exact ⟨0, none, 0, Nat.zero_le _, rfl, rfl, Own.nil _ _, hb1⟩
      case round =>
        clear hb1
        obtain ⟨k, a', cap', hk, rfl, rfl, hown, hb⟩ := hrel
        obtain ⟨wo, hwo⟩ : ∃ wo : World, wo = wr := ⟨_, rfl⟩
        subst hwo
        by_cases hlt : k < q
        · have hh := h.below hb (Nat.le_refl _)
          have HC := hid hh.2.2.2.2
          have HS2 := hid (turnWkL_succ xs (q : Int) k)
          clear hh
          go_wp2_with fail
          go_loop [8, 29] (fun c i => ∃ j : Nat, j ≤ n ∧ i = .int .i64 (j : Int) ∧ c = .int .i64 (from' (xs.take j) ((q : Int) - k) : Int)) (fun _ i => n - (intOf i).toNat)
          case atStart => exact ⟨0, Nat.zero_le _, rfl, by simp [from']⟩
          case round =>
            obtain ⟨j, hj, rfl, rfl⟩ := hrel
            by_cases hjn : j < n
            · obtain ⟨b, off, rfl, hbb, hc⟩ := HC.out (by omega)
              have hck := hc j hjn
              have HF := hid (from_succ (xs := xs) (k := j) (by rw [HL.out]; exact hjn) ((q : Int) - k))
              have hfl := from_le (xs.take j) ((q : Int) - k)
              rw [List.length_take] at hfl
              clear hc
              by_cases ht : (q : Int) - (k : Int) ≤ nth xs j
              · have ht2 : (q : Int) - 1 - (k : Int) < nth xs j := by omega
                have HT := hid ht
                clear ht
                go_wp2_with fail
                go_round
                case rel => exact ⟨j + 1, by omega, by go_num, by rw [HF.out, if_pos HT.out]; go_num⟩
                case measure => simp [intOf]; omega
              · have ht2 : ¬ (q : Int) - 1 - (k : Int) < nth xs j := by omega
                have HT := hid ht
                clear ht
                go_wp2_with fail
                go_round
                case rel => exact ⟨j + 1, by omega, by go_num, by rw [HF.out, if_neg HT.out]; rfl⟩
                case measure => simp [intOf]; omega
            · obtain rfl : n = j := by omega
              have he : xs.take n = xs := List.take_of_length_le (by rw [HL.out]; exact Nat.le_refl _)
              rw [he]
              have hsz := hb.size
              clear he
              go_wp2_with (at_builtin; refine wpList_append_int _ rfl _ _ rfl w.heap.size _ _ _ _ _ rfl rfl hown (by omega) hsz ?_; intro a4 cap4 w4 hown4 hb4)
              go_roundw
              case rel => exact ⟨k + 1, a4, cap4, by omega, by go_num, rfl, by rw [HS2.out]; exact hown4, hb.trans hb4⟩
              case measure => simp [intOf]; omega
        · obtain rfl : q = k := by omega
          go_wp2_with fail
          go_ret2
          exact postInts HR.out hown hb
    · have HR : Hid (turnWkOf xs (q : Int) = ([], false)) := hid (by simp [turnWkOf, h.len, hs])
      have HG := hid hg
      have HS := hid (Bool.eq_false_iff.2 hs)
      clear hg hx hs
      go_enter Try.func39, Try.ntmps39
      go_wp2_with fail
      refine (slWalk_any _ _ _ _ _ _ h).mono ?_
      rintro e w1 ⟨rfl, hb1⟩
      rw [HG.out]
      go_wp2_with (go_at_call 53; refine (slIs_any _ _ _).mono ?_; rintro e w' ⟨rfl, rfl⟩; rw [HS.out])
      go_ret2
      exact postInts_no HR.out hb1
  · have HR : Hid (turnWkOf xs ac = ([], false)) := hid (by simp [turnWkOf, hg])
    have HG := hid (Bool.eq_false_iff.2 hg)
    clear hg
    go_enter Try.func39, Try.ntmps39
    go_wp2_with fail
    refine (slWalk_any _ _ _ _ _ _ h).mono ?_
    rintro e w1 ⟨rfl, hb1⟩
    rw [HG.out]
    go_wp2_with fail
    go_ret2
    exact postInts_no HR.out hb1
end Go.Proofs.Ytfkejkkplafciad

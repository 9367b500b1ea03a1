/- The model's functions of chapter 8, by their contracts: slopes, bounds, slope parking functions, counts. -/
import Derived.Test.YtfkejkkplafciadSpecS
import Derived.Test.YtfkejkkplafciadLawKit
import Derived.Test.YtfkejkkplafciadMathSn
import Derived.Test.YtfkejkkplafciadMathW
namespace Go.Proofs.Ytfkejkkplafciad
open Go.RowKit

theorem gcd_tableB : ∀ m, m < 7 → ∀ q, q < 14 → 1 ≤ m → (List.range (m + 1)).all (fun t => !(decide (2 ≤ t) && decide (m % t = 0) && decide (q % t = 0))) = decide (Nat.gcd m q = 1) := by decide +kernel
theorem gcd_table {m q : Nat} (hm : m < 7) (hq : q < 14) (h1 : 1 ≤ m) : (∀ t, t < m + 1 → 2 ≤ t → ¬ (m % t = 0 ∧ q % t = 0)) ↔ Nat.gcd m q = 1 := by
  have h := gcd_tableB m hm q hq h1
  rw [← decide_eq_true_eq (p := Nat.gcd m q = 1), ← h, List.all_eq_true]
  constructor
  · intro hh t ht
    have := hh t (List.mem_range.1 ht)
    simp only [Bool.not_eq_true', Bool.and_eq_false_iff, decide_eq_false_iff_not]
    omega
  · intro hh t ht h2
    have := hh t (List.mem_range.2 ht)
    simp only [Bool.not_eq_true', Bool.and_eq_false_iff, decide_eq_false_iff_not] at this
    omega
theorem slB_out1 {n a : Int} (h : ¬ inB n 1 6 = true) : slB n a = false := by simp [slB, h]
theorem slB_out2 {n a : Int} (h : ¬ inB a 1 13 = true) : slB n a = false := by simp [slB, h]

set_option maxHeartbeats 800000 in
theorem slIs_any (n a : Int) (w : World) :
    Calls Try.prog 53 #[.int .i64 n, .int .i64 a] w fun e w' => e = .returned (.bool (slB n a)) ∧ w = w' := by
  by_cases h1 : inB n 1 6 = true
  · by_cases h2 : inB a 1 13 = true
    · obtain ⟨m, rfl⟩ : ∃ m : Nat, n = (m : Int) := ⟨n.toNat, by have := inB_iff.1 h1; omega⟩
      obtain ⟨q, rfl⟩ : ∃ q : Nat, a = (q : Int) := ⟨a.toNat, by have := inB_iff.1 h2; omega⟩
      have hm : 1 ≤ m ∧ m ≤ 6 := by have := inB_iff.1 h1; omega
      have hq : 1 ≤ q ∧ q ≤ 13 := by have := inB_iff.1 h2; omega
      have HT := hid (gcd_table (m := m) (q := q) (by omega) (by omega) hm.1)
      have HS : Hid (slB m q = decide (Nat.gcd m q = 1)) := hid (by simp [slB, h1, h2])
      have H1 := hid h1
      have H2 := hid h2
      clear h1 h2
      go_enter Try.func53, Try.ntmps53
      go_wp2_with (first | (go_at_call 60; refine (l1In_any _ _ _ _).mono ?_; rintro e w' ⟨rfl, rfl⟩; rw [H1.out]) | (go_at_call 60; refine (l1In_any _ _ _ _).mono ?_; rintro e w' ⟨rfl, rfl⟩; rw [H2.out]))
      go_loop [5] (fun i => ∃ d : Nat, 2 ≤ d ∧ (d ≤ m + 1 ∨ d = 2) ∧ i = .int .i64 (d : Int) ∧ Hid (∀ t, t < d → 2 ≤ t → ¬ (m % t = 0 ∧ q % t = 0))) (fun i => m + 1 - (intOf i).toNat)
      case atStart => exact ⟨2, Nat.le_refl _, .inr rfl, rfl, hid (fun t h1 h2 => by omega)⟩
      case round =>
        obtain ⟨d, hd2, hdm, rfl, HD⟩ := hrel
        by_cases hle : d ≤ m
        · have hle' : (d : Int) ≤ (m : Int) := by omega
          have hd0 : ¬ (d : Int) = 0 := by omega
          by_cases e1 : m % d = 0
          · have hb1 : ((m : Int) % (d : Int) == 0) = true := by rw [← Int.natCast_emod, e1]; rfl
            by_cases e2 : q % d = 0
            · have hb2 : ((q : Int) % (d : Int) == 0) = true := by rw [← Int.natCast_emod, e2]; rfl
              have HN : Hid (slB m q = false) := hid (by
                rw [HS.out, decide_eq_false_iff_not, ← HT.out]
                intro hh
                exact hh d (by omega) hd2 ⟨e1, e2⟩)
              clear e1 e2
              go_wp2_with fail
              go_ret
              exact ⟨ret_bool HN.out.symm, rfl⟩
            · have hb2 : ((q : Int) % (d : Int) == 0) = false := by rw [← Int.natCast_emod]; simp; omega
              have HE := hid e2
              clear e1 e2
              go_wp2_with fail
              go_round
              case rel => exact ⟨d + 1, by omega, by omega, by go_num, hid (fun t h1 h2 => by
                rcases Nat.lt_succ_iff_lt_or_eq.1 h1 with h | rfl
                · exact HD.out t h h2
                · exact fun h => HE.out h.2)⟩
              case measure => simp [intOf]; omega
          · have hb1 : ((m : Int) % (d : Int) == 0) = false := by rw [← Int.natCast_emod]; simp; omega
            have HE := hid e1
            clear e1
            go_wp2_with fail
            go_round
            case rel => exact ⟨d + 1, by omega, by omega, by go_num, hid (fun t h1 h2 => by
                rcases Nat.lt_succ_iff_lt_or_eq.1 h1 with h | rfl
                · exact HD.out t h h2
                · exact fun h => HE.out h.1)⟩
            case measure => simp [intOf]; omega
        · have hle' : ¬ (d : Int) ≤ (m : Int) := by omega
          have HN : Hid (slB m q = true) := hid (by
            rw [HS.out, decide_eq_true_eq, ← HT.out]
            intro t ht h2
            exact HD.out t (by omega) h2)
          go_wp2_with fail
          go_ret
          exact ⟨ret_bool HN.out.symm, rfl⟩
    · have HR := hid (slB_out2 (n := n) h2)
      have H1 := hid h1
      have H2 := hid h2
      clear h1 h2
      go_enter Try.func53, Try.ntmps53
      go_wp2_with (first | (go_at_call 60; refine (l1In_any _ _ _ _).mono ?_; rintro e w' ⟨rfl, rfl⟩; rw [H1.out]) | (go_at_call 60; refine (l1In_any _ _ _ _).mono ?_; rintro e w' ⟨rfl, rfl⟩; rw [Bool.eq_false_iff.2 H2.out]))
      go_ret
      exact ⟨ret_bool HR.out.symm, rfl⟩
  · have HR := hid (slB_out1 (a := a) h1)
    have H1 := hid h1
    clear h1
    go_enter Try.func53, Try.ntmps53
    go_wp2_with (go_at_call 60; refine (l1In_any _ _ _ _).mono ?_; rintro e w' ⟨rfl, rfl⟩; rw [Bool.eq_false_iff.2 H1.out])
    go_ret
    exact ⟨ret_bool HR.out.symm, rfl⟩

theorem bnds_prod {n a k : Nat} (hn : n ≤ 6) (ha : a ≤ 13) (hk : k < n) : k * a ≤ 78 ∧ k * a / n ≤ 78 := by
  have h := Nat.mul_le_mul (show k ≤ 6 by omega) ha
  exact ⟨h, Nat.le_trans (Nat.div_le_self _ _) h⟩

set_option maxHeartbeats 800000 in
theorem slBounds_any (n a : Nat) (w : World) (hn : n ≤ 6) (ha : a ≤ 13) :
    Calls Try.prog 78 #[.int .i64 (n : Int), .int .i64 (a : Int)] w fun e w' => ∃ a' cap', e = .returned (.slice a' n cap') ∧ Own w' w.heap.size a' n cap' (bnds n a) ∧ Below w.heap.size w w' := by
  have HLEN := hid (length_bnds n a)
  go_enter Try.func78, Try.ntmps78
  go_wp2_with fail
  go_loopw [5, 6] (fun o i wr => ∃ (k : Nat) (a' : Option Addr) (cap' : Nat), k ≤ n ∧ i = .int .i64 (k : Int) ∧ o = .slice a' k cap' ∧ Own wr w.heap.size a' k cap' ((bnds n a).take k) ∧ Below w.heap.size w wr) (fun _ i _ => n - (intOf i).toNat)
  case atStart => exact ⟨0, none, 0, Nat.zero_le _, rfl, rfl, Own.nil _ _, Below.refl _ _⟩
  case round =>
    obtain ⟨k, a', cap', hk, rfl, rfl, hown, hb⟩ := hrel
    by_cases hlt : k < n
    · obtain ⟨p0, p1⟩ := bnds_prod hn ha hlt
      have HS := hid (take_succ_nth (xs := bnds n a) (k := k) (by rw [HLEN.out]; exact hlt))
      have HN := hid (nth_bnds (a := a) hlt)
      have hp : (k : Int) * (a : Int) = ((k * a : Nat) : Int) := by rw [Int.natCast_mul]
      have hq0 : 0 ≤ (k : Int) * (a : Int) := by rw [hp]; omega
      have hq1 : (k : Int) * (a : Int) ≤ 78 := by rw [hp]; omega
      have hd : (k : Int) * (a : Int) / (n : Int) = ((k * a / n : Nat) : Int) := by rw [hp, ← Int.natCast_ediv]
      have hd0 : 0 ≤ (k : Int) * (a : Int) / (n : Int) := by rw [hd]; exact Int.natCast_nonneg _
      have hd1 : (k : Int) * (a : Int) / (n : Int) ≤ 78 := by rw [hd]; omega
      have HD := hid hd
      have hn0 : ¬ (n : Int) = 0 := by omega
      have hsz := hb.size
      clear hp hd p0 p1
      go_wp2_with (at_builtin; refine wpList_append_int _ rfl _ _ rfl w.heap.size _ _ _ _ _ rfl rfl hown (by omega) hsz ?_; intro a4 cap4 w4 hown4 hb4)
      go_roundw
      case rel => exact ⟨k + 1, a4, cap4, by omega, by go_num, rfl, by rw [HS.out, HN.out, ← HD.out]; exact hown4, hb.trans hb4⟩
      case measure => simp [intOf]; omega
    · obtain rfl : n = k := by omega
      go_wp2_with fail
      go_ret
      exact ⟨a', cap', rfl, by rw [List.take_of_length_le (by rw [HLEN.out]; exact Nat.le_refl _)] at hown; exact hown, hb⟩

theorem goodSl_no1 {xs : List Int} {a : Int} (h : ¬ slB xs.length a = true) : goodSl xs a = false := by simp [goodSl, h]
theorem goodSl_no2 {xs : List Int} {a : Int} (h : ¬ allB xs 0 (a - 1) = true) : goodSl xs a = false := by
  rw [Bool.eq_false_iff]
  intro hg
  simp only [goodSl, Bool.and_eq_true] at hg
  obtain ⟨m, q, h1, rfl, h3⟩ := slB_iff.1 hg.1
  have hm : xs.length = m := by omega
  obtain ⟨_, ⟨a1, _⟩, _⟩ := slN_iff.1 h3
  refine h (allB_iff.2 fun x hx => ?_)
  have := und_len (bnds_bnd _ _) (by rw [length_bnds]) hg.2 x hx
  have := numB_slope (n := xs.length) (a := q) a1
  rw [Int.toNat_natCast] at *
  omega
theorem goodSl_yes {xs : List Int} {n q : Nat} (hl : xs.length = n) (h : slB (n : Int) (q : Int) = true) : goodSl xs q = undTo (insSort xs) (bnds n q) n := by
  subst hl
  simp [goodSl, h, und]
theorem sort_nonneg {xs : List Int} {hi : Int} {n : Nat} (h : allB xs 0 hi = true) (hl : xs.length = n) : ∀ i, i < n → 0 ≤ nth (insSort xs) i := fun i hi => by
  have := length_insSort xs
  exact (allB_iff.1 h _ ((insSort_perm xs).mem_iff.1 (nth_mem (by omega)))).1
theorem slB_parts {n : Nat} {a : Int} (h : slB (n : Int) a = true) : ∃ q : Nat, a = (q : Int) ∧ slN n q = true ∧ (1 ≤ n ∧ n ≤ 6) ∧ 1 ≤ q ∧ q ≤ 13 := by
  obtain ⟨m, q, h1, rfl, h3⟩ := slB_iff.1 h
  have : n = m := by omega
  subst this
  obtain ⟨a1, a2, _⟩ := slN_iff.1 h3
  exact ⟨q, rfl, h3, a1, a2⟩

set_option maxHeartbeats 800000 in
theorem slGood_any (a : Option Addr) (n cap : Nat) (xs : List Int) (ac : Int) (w : World) (h : Has w a n cap xs) :
    Calls Try.prog 77 #[.slice a n cap, .int .i64 ac] w fun e w' => e = .returned (.bool (goodSl xs ac)) ∧ Below w.heap.size w w' := by
  have hlen := h.len
  by_cases h1 : slB (n : Int) ac = true
  · obtain ⟨q, rfl, hs, hn, hq⟩ := slB_parts h1
    by_cases h2 : allB xs 0 ((q : Int) - 1) = true
    · have HR := hid (goodSl_yes hlen h1)
      have H0 := hid (sort_nonneg h2 hlen)
      have H1 := hid h1
      have H2 := hid h2
      have HB := hid (length_bnds n q)
      clear h1 h2 hlen hs
      go_enter Try.func77, Try.ntmps77
      go_wp2_with (first | (go_at_call 53; refine (slIs_any _ _ _).mono ?_; rintro e w' ⟨rfl, rfl⟩; rw [H1.out]) | (go_at_call 74; refine (l1All_any _ _ _ _ _ _ _ h).mono ?_; rintro e w' ⟨rfl, rfl⟩; rw [H2.out]))
      refine (slBounds_any n q _ (by omega) (by omega)).mono ?_
      rintro e w1 ⟨a1, cap1, rfl, hown1, hb1⟩
      go_wp2_with fail
      refine (paSorted_any _ _ _ _ _ (h.below hb1 (Nat.le_refl _)) (by omega)).mono ?_
      rintro e w2 ⟨a2, cap2, rfl, hown2, hb2⟩
      have hbw := hb1.trans (hb2.mono hb1.size)
      obtain ⟨b1, off1, rfl, -, hc1⟩ := (hown1.has.below hb2 (Nat.le_refl _)).2.2.2.2 (by omega)
      obtain ⟨b2, off2, rfl, -, hc2⟩ := hown2.has.2.2.2.2 (by omega)
      have hcap1 := hown1.has.2.1
      have hcap2 := hown2.has.2.1
      clear hown1 hown2 hb1 hb2
      go_wp2_with fail
      go_loop [27] (fun i => ∃ k : Nat, k ≤ n ∧ i = .int .i64 (k : Int) ∧ Hid (undTo (insSort xs) (bnds n q) k = true)) (fun i => n - (intOf i).toNat)
      case atStart => exact ⟨0, Nat.zero_le _, rfl, hid rfl⟩
      case round =>
        obtain ⟨k, hk, rfl, HU⟩ := hrel
        by_cases hlt : k < n
        · have hck1 := hc1 k hlt
          have hck2 := hc2 k hlt
          by_cases ht : nth (insSort xs) k ≤ nth (bnds n q) k
          · have HU2 : Hid (undTo (insSort xs) (bnds n q) (k + 1) = true) := hid (by rw [undTo_succ, HU.out]; simp [H0.out k hlt, ht])
            go_wp2_with fail
            go_round
            case rel => exact ⟨k + 1, by omega, by go_num, HU2⟩
            case measure => simp [intOf]; omega
          · have HU2 : Hid (undTo (insSort xs) (bnds n q) n = false) := hid (undTo_no hlt fun hh => ht hh.2)
            go_wp2_with fail
            go_ret
            exact ⟨ret_bool (by rw [HR.out, HU2.out]), hbw⟩
        · obtain rfl : k = n := by omega
          go_wp2_with fail
          go_ret
          exact ⟨ret_bool (by rw [HR.out, HU.out]), hbw⟩
    · have HR := hid (goodSl_no2 h2)
      have H1 := hid h1
      have H2 := hid h2
      clear h1 h2 hlen hs
      go_enter Try.func77, Try.ntmps77
      go_wp2_with (first | (go_at_call 53; refine (slIs_any _ _ _).mono ?_; rintro e w' ⟨rfl, rfl⟩; rw [H1.out]) | (go_at_call 74; refine (l1All_any _ _ _ _ _ _ _ h).mono ?_; rintro e w' ⟨rfl, rfl⟩; rw [Bool.eq_false_iff.2 H2.out]))
      go_ret
      exact ⟨ret_bool HR.out.symm, Below.refl _ _⟩
  · have HR := hid (goodSl_no1 (xs := xs) (a := ac) (by rw [hlen]; exact h1))
    have H1 := hid h1
    clear h1 hlen
    go_enter Try.func77, Try.ntmps77
    go_wp2_with (go_at_call 53; refine (slIs_any _ _ _).mono ?_; rintro e w' ⟨rfl, rfl⟩; rw [Bool.eq_false_iff.2 H1.out])
    go_ret
    exact ⟨ret_bool HR.out.symm, Below.refl _ _⟩

theorem specIsSl_any (a : Option Addr) (n cap : Nat) (xs : List Int) (ac : Int) (w : World) (h : Has w a n cap xs) :
    Calls Try.prog 26 #[.slice a n cap, .int .i64 ac] w (PostBools w (isSlOf xs ac)) := by
  have hlen := h.len
  by_cases h1 : slB (n : Int) ac = true
  · have HR : Hid (isSlOf xs ac = (goodSl xs ac, true)) := hid (by subst hlen; simp [isSlOf, goodSl, h1])
    have H1 := hid h1
    clear h1 hlen
    go_enter Try.func26, Try.ntmps26
    go_wp2_with (go_at_call 53; refine (slIs_any _ _ _).mono ?_; rintro e w' ⟨rfl, rfl⟩; rw [H1.out])
    refine (slGood_any _ _ _ _ _ _ h).mono ?_
    rintro e w1 ⟨rfl, hb1⟩
    go_wp2_with fail
    go_ret2
    exact postBools HR.out hb1
  · have HR : Hid (isSlOf xs ac = (false, false)) := hid (by subst hlen; simp [isSlOf, h1])
    have H1 := hid h1
    clear h1 hlen
    go_enter Try.func26, Try.ntmps26
    go_wp2_with (go_at_call 53; refine (slIs_any _ _ _).mono ?_; rintro e w' ⟨rfl, rfl⟩; rw [Bool.eq_false_iff.2 H1.out])
    go_ret2
    exact postBools HR.out (Below.refl _ _)

theorem specBounds_any (n a : Int) (w : World) : Calls Try.prog 28 #[.int .i64 n, .int .i64 a] w (PostInts w (boundsOf n a)) := by
  by_cases h1 : slB n a = true
  · have HR : Hid (boundsOf n a = (bnds n.toNat a.toNat, true)) := hid (by simp [boundsOf, h1])
    obtain ⟨m, q, rfl, rfl, hs⟩ := slB_iff.1 h1
    obtain ⟨⟨n0, n1⟩, ⟨q0, q1⟩, -⟩ := slN_iff.1 hs
    have H1 := hid h1
    clear h1 hs
    go_enter Try.func28, Try.ntmps28
    go_wp2_with (go_at_call 53; refine (slIs_any _ _ _).mono ?_; rintro e w' ⟨rfl, rfl⟩; rw [H1.out])
    refine (slBounds_any m q _ (by omega) (by omega)).mono ?_
    rintro e w1 ⟨a1, cap1, rfl, hown1, hb1⟩
    go_wp2_with fail
    go_ret2
    exact postInts HR.out hown1 hb1
  · have HR : Hid (boundsOf n a = ([], false)) := hid (by simp [boundsOf, h1])
    have H1 := hid h1
    clear h1
    go_enter Try.func28, Try.ntmps28
    go_wp2_with (go_at_call 53; refine (slIs_any _ _ _).mono ?_; rintro e w' ⟨rfl, rfl⟩; rw [Bool.eq_false_iff.2 H1.out])
    go_ret2
    exact postInts_no HR.out (Below.refl _ _)

theorem most_bound {m q : Nat} (hm : m ≤ 6) (hq : q ≤ 13) (h1 : 1 ≤ m) (h2 : 1 ≤ q) : 0 ≤ ((m : Int) - 1) * ((q : Int) - 1) ∧ ((m : Int) - 1) * ((q : Int) - 1) ≤ 60 := by
  have h := Nat.mul_le_mul (show m - 1 ≤ 5 by omega) (show q - 1 ≤ 12 by omega)
  rw [show (m : Int) - 1 = ((m - 1 : Nat) : Int) by omega, show (q : Int) - 1 = ((q - 1 : Nat) : Int) by omega, ← Int.natCast_mul]
  omega

set_option maxHeartbeats 400000 in
theorem slPower_any (b k : Nat) (w : World) (hb : b ≤ 13) (hk : k ≤ 8) :
    Calls Try.prog 55 #[.int .i64 (b : Int), .int .i64 (k : Int)] w fun e w' => e = .returned (.int .i64 ((b ^ k : Nat) : Int)) ∧ w = w' := by
  go_enter Try.func55, Try.ntmps55
  go_wp2_with fail
  go_loop [1, 5] (fun i o => ∃ j : Nat, j ≤ k ∧ i = .int .i64 ((k - j : Nat) : Int) ∧ o = .int .i64 ((b ^ j : Nat) : Int)) (fun i _ => (intOf i).toNat)
  case atStart => exact ⟨0, Nat.zero_le _, by simp, by simp⟩
  case round =>
    obtain ⟨j, hj, rfl, rfl⟩ := hrel
    have hp := pow_small b (by omega) j (by omega)
    by_cases hlt : j < k
    · have hq := pow_small b (by omega) (j + 1) (by omega)
      have HP : Hid (((b ^ (j + 1) : Nat) : Int) = ((b ^ j : Nat) : Int) * (b : Int)) := hid (by rw [Nat.pow_succ, Int.natCast_mul])
      obtain ⟨q, hqe⟩ : ∃ q, b ^ (j + 1) = q := ⟨_, rfl⟩
      have HQ := hid hqe
      rw [hqe] at hq HP
      clear hqe
      have hq1 : ((b ^ j : Nat) : Int) * (b : Int) ≤ 815730721 := by rw [← HP.out]; exact Int.ofNat_le.2 hq
      have hq0 : 0 ≤ ((b ^ j : Nat) : Int) * (b : Int) := by rw [← HP.out]; exact Int.natCast_nonneg _
      obtain ⟨d, hd⟩ : ∃ d, k - j = d + 1 := ⟨k - j - 1, by omega⟩
      have hd2 : k - (j + 1) = d := by omega
      have hd8 : d ≤ 8 := by omega
      have HD2 := hid hd2
      rw [hd]
      clear hq hd hd2
      generalize b ^ j = p at *
      go_wp2_with fail
      go_round
      case rel => exact ⟨j + 1, by omega, by rw [HD2.out], by rw [HQ.out, HP.out]⟩
      case measure => simp [intOf]
    · obtain rfl : j = k := by omega
      rw [Nat.sub_self]
      go_wp2_with fail
      go_ret
      exact ⟨rfl, rfl⟩
theorem slPower_at (b k : Nat) (B K : Int) (w : World) (hB : B = (b : Int)) (hK : K = (k : Int)) (hb : b ≤ 13) (hk : k ≤ 8) :
    Calls Try.prog 55 #[.int .i64 B, .int .i64 K] w fun e w' => e = .returned (.int .i64 ((b ^ k : Nat) : Int)) ∧ w = w' := by
  subst hB hK
  exact slPower_any b k w hb hk

theorem specCntSl_any (n a : Int) (w : World) : Calls Try.prog 12 #[.int .i64 n, .int .i64 a] w (PostInt w (cntSlOf n a)) := by
  by_cases h1 : slB n a = true
  · obtain ⟨m, q, rfl, rfl, hs⟩ := slB_iff.1 h1
    have HR : Hid (cntSlOf m q = (((q ^ (m - 1) : Nat) : Int), true)) := hid (by simp [cntSlOf, h1])
    obtain ⟨⟨n0, n1⟩, ⟨q0, q1⟩, -⟩ := slN_iff.1 hs
    have H1 := hid h1
    clear h1 hs
    go_enter Try.func12, Try.ntmps12
    go_wp2_with (first | (go_at_call 53; refine (slIs_any _ _ _).mono ?_; rintro e w' ⟨rfl, rfl⟩; rw [H1.out]) | (go_at_call 55; refine (slPower_at q (m - 1) _ _ _ rfl (by omega) (by omega) (by omega)).mono ?_; rintro e w' ⟨rfl, rfl⟩))
    go_ret2
    exact postInt HR.out (Below.refl _ _)
  · have HR : Hid (cntSlOf n a = (0, false)) := hid (by simp [cntSlOf, h1])
    have H1 := hid h1
    clear h1
    go_enter Try.func12, Try.ntmps12
    go_wp2_with (go_at_call 53; refine (slIs_any _ _ _).mono ?_; rintro e w' ⟨rfl, rfl⟩; rw [Bool.eq_false_iff.2 H1.out])
    go_ret2
    exact postInt HR.out (Below.refl _ _)

theorem chs_next18 : ∀ n, n < 19 → ∀ i, i < n → chs n i * (n - i) = chs n (i + 1) * (i + 1) := by decide +kernel
theorem chs_times18 : ∀ n, n < 19 → ∀ i, i < n → chs n i * (n - i) ≤ 1000000 := by decide +kernel
theorem chs_small18 : ∀ n, n < 19 → ∀ i, i < 19 → chs n i ≤ 48620 := by decide +kernel
/-- The next choice by the formula that goes up: n - k + i over i. -/
theorem chs_up : ∀ n, n < 19 → ∀ k, k < 7 → k ≤ n → ∀ i, i < k → chs (n - k + i) i * (n - k + i + 1) = chs (n - k + (i + 1)) (i + 1) * (i + 1) := by decide +kernel
theorem chs_upB : ∀ n, n < 19 → ∀ k, k < 7 → k ≤ n → ∀ i, i < k + 1 → chs (n - k + i) i ≤ 48620 := by decide +kernel

set_option maxHeartbeats 800000 in
theorem slChoose_any (n k : Nat) (w : World) (hn : n ≤ 18) (hk : k ≤ n) (hk6 : k ≤ 6) :
    Calls Try.prog 96 #[.int .i64 (n : Int), .int .i64 (k : Int)] w fun e w' => e = .returned (.int .i64 (chs n k : Int)) ∧ w' = w := by
  have HE : Hid (chs (n - k + k) k = chs n k) := hid (by rw [Nat.sub_add_cancel hk])
  go_enter Try.func96, Try.ntmps96
  go_wp2_with fail
  go_loop [5, 6] (fun o i => ∃ j : Nat, j ≤ k ∧ i = .int .i64 ((j : Int) + 1) ∧ o = .int .i64 (chs (n - k + j) j : Int)) (fun _ i => k + 1 - (intOf i).toNat)
  case atStart => exact ⟨0, Nat.zero_le _, rfl, by simp [chs_zero]⟩
  case round =>
    obtain ⟨j, hj, rfl, rfl⟩ := hrel
    by_cases hlt : j < k
    · have h1 := chs_up n (by omega) k (by omega) hk j hlt
      have h3 := chs_upB n (by omega) k (by omega) hk j (by omega)
      have hi : ((chs (n - k + j) j * (n - k + j + 1) : Nat) : Int) = (chs (n - k + j) j : Int) * ((n : Int) - (k : Int) + ((j : Int) + 1)) := by rw [Int.natCast_mul]; congr 1; omega
      have hm := Nat.mul_le_mul h3 (show n - k + j + 1 ≤ 19 by omega)
      have hi1 : (chs (n - k + j) j : Int) * ((n : Int) - (k : Int) + ((j : Int) + 1)) ≤ 923780 := by rw [← hi]; omega
      have hi0 : 0 ≤ (chs (n - k + j) j : Int) * ((n : Int) - (k : Int) + ((j : Int) + 1)) := by rw [← hi]; exact Int.natCast_nonneg _
      have HQ : Hid ((chs (n - k + j) j : Int) * ((n : Int) - (k : Int) + ((j : Int) + 1)) / ((j : Int) + 1) = (chs (n - k + (j + 1)) (j + 1) : Int)) := hid (by
        rw [← hi, h1, show (j : Int) + 1 = ((j + 1 : Nat) : Int) by omega, ← Int.natCast_ediv, Nat.mul_div_cancel _ (by omega)])
      clear h1 hi hm
      generalize chs (n - k + j) j = c at *
      go_wp2_with fail
      go_round
      case rel => exact ⟨j + 1, by omega, by go_num, congrArg (Value.int .i64) HQ.out⟩
      case measure => simp [intOf]; omega
    · obtain rfl : j = k := by omega
      rw [HE.out]
      go_wp2_with fail
      go_ret
      exact ⟨rfl, rfl⟩
theorem slChoose_at (n k : Nat) (N K : Int) (w : World) (hN : N = (n : Int)) (hK : K = (k : Int)) (hn : n ≤ 18) (hk : k ≤ n) (hk6 : k ≤ 6) :
    Calls Try.prog 96 #[.int .i64 N, .int .i64 K] w fun e w' => e = .returned (.int .i64 (chs n k : Int)) ∧ w' = w := by
  subst hN hK
  exact slChoose_any n k w hn hk hk6

theorem slWalks_any (m q : Nat) (w : World) (hm : 1 ≤ m ∧ m ≤ 6) (hq : 1 ≤ q ∧ q ≤ 13) (hc : chs (m + q - 1) (m - 1) ≤ 48620) :
    Calls Try.prog 83 #[.int .i64 (m : Int), .int .i64 (q : Int)] w fun e w' => e = .returned (.int .i64 (cntWkN m q : Int)) ∧ w' = w := by
  have HR : Hid ((cntWkN m q : Int) = (chs (m + q - 1) (m - 1) : Int) / (m : Int)) := hid (by unfold cntWkN; rw [Int.natCast_ediv])
  have hd0 : 0 ≤ (chs (m + q - 1) (m - 1) : Int) / (m : Int) := by rw [← HR.out]; exact Int.natCast_nonneg _
  have hd1 : (chs (m + q - 1) (m - 1) : Int) / (m : Int) ≤ 48620 := by rw [← HR.out]; unfold cntWkN; have := Nat.div_le_self (chs (m + q - 1) (m - 1)) m; omega
  have hm0 : ¬ (m : Int) = 0 := by omega
  go_enter Try.func83, Try.ntmps83
  go_wp2_with fail
  refine (slChoose_at (m + q - 1) (m - 1) _ _ _ (by omega) (by omega) (by omega) (by omega) (by omega)).mono ?_
  rintro e w' ⟨rfl, rfl⟩
  go_wp2_with fail
  go_ret
  exact ⟨ret_int HR.out.symm, rfl⟩

theorem chs_slope {m q : Nat} (hm : 1 ≤ m ∧ m ≤ 6) (hq : 1 ≤ q ∧ q ≤ 13) : chs (m + q - 1) (m - 1) ≤ 48620 := chs_small18 _ (by omega) _ (by omega)

theorem specCntWk_any (n a : Int) (w : World) : Calls Try.prog 36 #[.int .i64 n, .int .i64 a] w (PostInt w (cntWkOf n a)) := by
  by_cases h1 : slB n a = true
  · obtain ⟨m, q, rfl, rfl, hs⟩ := slB_iff.1 h1
    have HR : Hid (cntWkOf m q = ((cntWkN m q : Int), true)) := hid (by simp [cntWkOf, h1])
    obtain ⟨hm, hq, -⟩ := slN_iff.1 hs
    have hc := chs_slope hm hq
    have H1 := hid h1
    clear h1 hs
    go_enter Try.func36, Try.ntmps36
    go_wp2_with (first | (go_at_call 53; refine (slIs_any _ _ _).mono ?_; rintro e w' ⟨rfl, rfl⟩; rw [H1.out]) | (go_at_call 83; refine (slWalks_any _ _ _ hm hq hc).mono ?_; rintro e w' ⟨rfl, rfl⟩))
    go_ret2
    exact postInt HR.out (Below.refl _ _)
  · have HR : Hid (cntWkOf n a = (0, false)) := hid (by simp [cntWkOf, h1])
    have H1 := hid h1
    clear h1
    go_enter Try.func36, Try.ntmps36
    go_wp2_with (go_at_call 53; refine (slIs_any _ _ _).mono ?_; rintro e w' ⟨rfl, rfl⟩; rw [Bool.eq_false_iff.2 H1.out])
    go_ret2
    exact postInt HR.out (Below.refl _ _)
end Go.Proofs.Ytfkejkkplafciad

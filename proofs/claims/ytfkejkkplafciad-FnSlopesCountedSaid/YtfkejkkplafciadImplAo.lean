/- All slope parking functions and all walks, asked through an interface: the program's functions, by their contracts. -/
import Derived.Test.YtfkejkkplafciadImplAs
import Derived.Test.YtfkejkkplafciadSpecAl
import Derived.Deep.RegionWith
namespace Go.Proofs.Ytfkejkkplafciad
open Go.RowKit

theorem allB_facts {m q : Nat} (hs : slN m q = true) (h : q ^ (m - 1) ≤ 700) : Chain (fun xs => nextU (bnds m q) xs xs.length) (allB' (bnds m q)) ∧ (allB' (bnds m q)).getD 0 [] = List.replicate m 0 ∧ (allB' (bnds m q)).length ≤ 100000 ∧
    ∀ k, k < (allB' (bnds m q)).length → ((allB' (bnds m q)).getD k []).length = m ∧ ∀ i, i < m → 0 ≤ nth ((allB' (bnds m q)).getD k []) i ∧ nth ((allB' (bnds m q)).getD k []) i ≤ 13 := by
  obtain ⟨⟨h1, h2⟩, ⟨h3, h4⟩, _⟩ := slN_iff.1 hs
  obtain ⟨c1, c2, c3, c4⟩ := allB_chain (bnds_bnd m q)
  rw [length_bnds] at c2
  have hc := cnt_slope m (by omega) q (by omega) hs
  refine ⟨c1, c2, by rw [c3, hc]; omega, fun k hk => ?_⟩
  obtain ⟨_, _, d3, d4⟩ := c4 k hk
  rw [length_bnds] at d4
  refine ⟨d4, fun i hi => ?_⟩
  have := und_len (bnds_bnd m q) (by rw [length_bnds]; exact d4) d3 _ (nth_mem (xs := (allB' (bnds m q)).getD k []) (i := i) (by omega))
  have := numB_slope (n := m) (a := q) h3
  omega
theorem allW_facts {m q : Nat} (hs : slN m q = true) (h : cntWkN m q ≤ 700) : Chain (fun xs => nextW (bnds m q) xs xs.length) (allW (bnds m q)) ∧ (allW (bnds m q)).getD 0 [] = List.replicate m 0 ∧ (allW (bnds m q)).length ≤ 100000 ∧
    ∀ k, k < (allW (bnds m q)).length → ((allW (bnds m q)).getD k []).length = m ∧ ∀ i, i < m → 0 ≤ nth ((allW (bnds m q)).getD k []) i ∧ nth ((allW (bnds m q)).getD k []) i ≤ 13 := by
  obtain ⟨⟨h1, h2⟩, ⟨h3, h4⟩, _⟩ := slN_iff.1 hs
  obtain ⟨c1, c2, c4⟩ := allW_chain (bnds_bnd m q)
  rw [length_bnds] at c2
  have hc := walks_count m (by omega) q (by omega) hs h
  refine ⟨c1, c2, by rw [hc]; unfold cntWkN at h; omega, fun k hk => ?_⟩
  obtain ⟨d1, _, d3⟩ := c4 k hk
  rw [length_bnds] at d1 d3
  refine ⟨d1, fun i hi => ?_⟩
  have h5 := d3 i hi
  have h6 := bnds_lt (n := m) (a := q) h3 _ (nth_mem (xs := bnds m q) (i := i) (by rw [length_bnds]; exact hi))
  omega

set_option maxHeartbeats 800000 in
theorem onLine_any (n a : Int) (w : World) : Calls Try.prog 65 #[.iface 71 (.agg #[.int .i64 n, .int .i64 a])] w (PostRows w (allSlOf n a)) := by
  by_cases h1 : slB n a = true
  · obtain ⟨m, q, rfl, rfl, hs⟩ := slB_iff.1 h1
    obtain ⟨⟨n0, n1⟩, ⟨q0, q1⟩, -⟩ := slN_iff.1 hs
    have HCN : Hid (cntSlOf m q = (((q ^ (m - 1) : Nat) : Int), true)) := hid (by simp [cntSlOf, h1])
    by_cases h7 : q ^ (m - 1) ≤ 700
    · have HA := hid (allSl_yes hs h7)
      obtain ⟨f1, f2, f3, f4⟩ := allB_facts hs h7
      have HC := hid f1
      have HF := hid f2
      have HL := hid f3
      have HV := hid f4
      have hnl : ¬ (700 : Int) < ((q ^ (m - 1) : Nat) : Int) := by omega
      clear h1 hs h7 f1 f2 f3 f4
      generalize q ^ (m - 1) = pw at *
      go_enter Try.func65, Try.ntmps65
      go_wp2_with fail
      refine (countLine_any _ _ _).mono ?_
      rw [HCN.out]
      rintro e w1 ⟨rfl, hb1⟩
      go_wp2_with fail
      go_region_with (first | (go_at_call 170; refine (lineFirst_any m (q : Int) _ n1).mono ?_; rintro e w5 ⟨a5, cap5, rfl, hown5, hb5⟩) | (go_at_call 98; refine (allLine_any m q (allB' (bnds m q)) HC.out n1 q1 HL.out HV.out _ _ _ _ _ _ hb5 hown5 HF.out).mono ?_; rintro e w6 ⟨a6, q6, cap6, rs6, rfl, hown6, hn6, hb6⟩))
      all_goals
        go_wp2_with fail
        go_ret2
        exact postRows HA.out (hown6.mono hb1.size) hn6 (hb1.trans (((Below.refl w1.heap.size w1).drew.trans hb6).mono hb1.size))
    · have HA := hid (allSl_no2 h7)
      have hnl : (700 : Int) < ((q ^ (m - 1) : Nat) : Int) := by omega
      clear h1 hs h7
      generalize q ^ (m - 1) = pw at *
      go_enter Try.func65, Try.ntmps65
      go_wp2_with fail
      refine (countLine_any _ _ _).mono ?_
      rw [HCN.out]
      rintro e w1 ⟨rfl, hb1⟩
      go_wp2_with fail
      go_ret2
      exact postRows_no HA.out hb1
  · have HA := hid (allSl_no1 h1)
    have HCN : Hid (cntSlOf n a = (0, false)) := hid (by simp [cntSlOf, h1])
    clear h1
    go_enter Try.func65, Try.ntmps65
    go_wp2_with fail
    refine (countLine_any _ _ _).mono ?_
    rw [HCN.out]
    rintro e w1 ⟨rfl, hb1⟩
    go_wp2_with fail
    go_ret2
    exact postRows_no HA.out hb1
set_option maxHeartbeats 800000 in
theorem onSteps_any (n a : Int) (w : World) : Calls Try.prog 65 #[.iface 90 (.agg #[.int .i64 n, .int .i64 a])] w (PostRows w (allWkOf n a)) := by
  by_cases h1 : slB n a = true
  · obtain ⟨m, q, rfl, rfl, hs⟩ := slB_iff.1 h1
    obtain ⟨⟨n0, n1⟩, ⟨q0, q1⟩, -⟩ := slN_iff.1 hs
    have HCN : Hid (cntWkOf m q = ((cntWkN m q : Int), true)) := hid (by simp [cntWkOf, h1])
    by_cases h7 : cntWkN m q ≤ 700
    · have HA := hid (allWk_yes hs h7)
      obtain ⟨f1, f2, f3, f4⟩ := allW_facts hs h7
      have HC := hid f1
      have HF := hid f2
      have HL := hid f3
      have HV := hid f4
      have hnl : ¬ (700 : Int) < (cntWkN m q : Int) := by omega
      clear h1 hs h7 f1 f2 f3 f4
      generalize cntWkN m q = pw at *
      go_enter Try.func65, Try.ntmps65
      go_wp2_with fail
      refine (countSteps_any _ _ _).mono ?_
      rw [HCN.out]
      rintro e w1 ⟨rfl, hb1⟩
      go_wp2_with fail
      go_region_with (first | (go_at_call 170; refine (lineFirst_any m (q : Int) _ n1).mono ?_; rintro e w5 ⟨a5, cap5, rfl, hown5, hb5⟩) | (go_at_call 98; refine (allSteps_any m q (allW (bnds m q)) HC.out n1 q1 HL.out HV.out _ _ _ _ _ _ hb5 hown5 HF.out).mono ?_; rintro e w6 ⟨a6, q6, cap6, rs6, rfl, hown6, hn6, hb6⟩))
      all_goals
        go_wp2_with fail
        go_ret2
        exact postRows HA.out (hown6.mono hb1.size) hn6 (hb1.trans (((Below.refl w1.heap.size w1).drew.trans hb6).mono hb1.size))
    · have HA := hid (allWk_no2 h7)
      have hnl : (700 : Int) < (cntWkN m q : Int) := by omega
      clear h1 hs h7
      generalize cntWkN m q = pw at *
      go_enter Try.func65, Try.ntmps65
      go_wp2_with fail
      refine (countSteps_any _ _ _).mono ?_
      rw [HCN.out]
      rintro e w1 ⟨rfl, hb1⟩
      go_wp2_with fail
      go_ret2
      exact postRows_no HA.out hb1
  · have HA := hid (allWk_no1 h1)
    have HCN : Hid (cntWkOf n a = (0, false)) := hid (by simp [cntWkOf, h1])
    clear h1
    go_enter Try.func65, Try.ntmps65
    go_wp2_with fail
    refine (countSteps_any _ _ _).mono ?_
    rw [HCN.out]
    rintro e w1 ⟨rfl, hb1⟩
    go_wp2_with fail
    go_ret2
    exact postRows_no HA.out hb1

theorem implAllSl_any (n a : Int) (w : World) : Calls Try.prog 16 #[.int .i64 n, .int .i64 a] w (PostRows w (allSlOf n a)) := by
  go_enter Try.func16, Try.ntmps16
  go_wp2_with fail
  refine (onLine_any _ _ _).mono ?_
  obtain ⟨⟨ls, ok⟩, hr⟩ : ∃ r, allSlOf n a = r := ⟨_, rfl⟩
  rw [hr]
  have HR := hid hr
  clear hr
  rintro e w1 ⟨a1, q1, cap1, rs1, rfl, hown1, hn1, hb1⟩
  go_wp2_with fail
  go_ret2
  exact postRows HR.out hown1 hn1 hb1
theorem implAllWk_any (n a : Int) (w : World) : Calls Try.prog 33 #[.int .i64 n, .int .i64 a] w (PostRows w (allWkOf n a)) := by
  go_enter Try.func33, Try.ntmps33
  go_wp2_with fail
  refine (onSteps_any _ _ _).mono ?_
  obtain ⟨⟨ls, ok⟩, hr⟩ : ∃ r, allWkOf n a = r := ⟨_, rfl⟩
  rw [hr]
  have HR := hid hr
  clear hr
  rintro e w1 ⟨a1, q1, cap1, rs1, rfl, hown1, hn1, hb1⟩
  go_wp2_with fail
  go_ret2
  exact postRows HR.out hown1 hn1 hb1
end Go.Proofs.Ytfkejkkplafciad

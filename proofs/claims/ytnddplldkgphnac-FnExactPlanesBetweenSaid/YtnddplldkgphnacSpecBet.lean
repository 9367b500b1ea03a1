/- PlanesBetween: the model, by contract. -/
import Derived.Test.YtnddplldkgphnacSpecPln
import Derived.Test.YtnddplldkgphnacMathPb
namespace Go.Proofs.Ytnddplldkgphnac
open Go.RowKit

/-- The count within a pair: how many of the two planes are done. -/
def partD (xs ys : List Int) (i s u : Nat) : Nat := (if 1 ≤ u then df xs ys i s 0 else 0) + (if 2 ≤ u then df xs ys i s 100 else 0)
theorem partD_le (xs ys : List Int) (i s u : Nat) : partD xs ys i s u ≤ 2 := by
  have := df_le xs ys i s 0
  have := df_le xs ys i s 100
  unfold partD
  split <;> split <;> omega
theorem partD_two (xs ys : List Int) (i s : Nat) : partD xs ys i s 2 = dTwo xs ys i s := by simp [partD, dTwo]
theorem quiet_below {w w1 w2 : World} {K : Nat} (h : Below K w w1) (hq : Quiet w1 w2) : Below K w w2 := by
  obtain ⟨q, rfl⟩ := hq
  exact below_drewN h q
theorem betS_yes {xs ys : List Int} {n : Nat} (hn : xs.length = n) (h1 : pointB xs = true) (h2 : pointB ys = true) (h3 : ys.length = n) : betweenOf xs ys = ((totC xs ys n n : Int), true) := by
  subst hn
  unfold betweenOf
  rw [h1, h2, decide_eq_true h3.symm, tot_all]
  rfl
theorem betS_no1 {xs ys : List Int} (h : pointB xs = false) : betweenOf xs ys = (0, false) := by simp [betweenOf, h]
theorem betS_no2 {xs ys : List Int} (h : pointB ys = false) : betweenOf xs ys = (0, false) := by simp [betweenOf, h]
theorem betS_no3 {xs ys : List Int} {n m : Nat} (h1 : xs.length = n) (h2 : ys.length = m) (h : ¬ n = m) : betweenOf xs ys = (0, false) := by
  have : ¬ xs.length = ys.length := by omega
  simp [betweenOf, this]
theorem has_two (w : World) : Has (w.alloc (.cells #[.int .i64 0, .int .i64 100] 3)) (some ⟨w.heap.size, 0, none⟩) 2 2 [0, 100] := by
  have := World.ownsRow_lit (base := w.heap.size) (e := 3) (size := 1) w #[.int .i64 0, .int .i64 100] 2 (Nat.le_refl _) (by unfold maxLen; omega) (by simp)
  exact Own.has (B := w.heap.size) ⟨by simpa using this, rfl, by omega⟩
set_option maxRecDepth 100000 in
set_option maxHeartbeats 8000000 in
theorem specBetween_any (a b : Option Addr) (n cap m capb : Nat) (xs ys : List Int) (w : World) (h : Has w a n cap xs) (h' : Has w b m capb ys) :
    Calls Try.prog 8 #[.slice a n cap, .slice b m capb] w (PostInt w (betweenOf xs ys)) := by
  have hl := h.len
  have hl' := h'.len
  by_cases h1 : pointB xs = true
  · have H1 := hid h1
    by_cases h2 : pointB ys = true
    · have H2 := hid h2
      by_cases h3 : n = m
      · subst h3
        have HR := hid (betS_yes hl h1 h2 hl')
        obtain ⟨p1, p2, -⟩ := pointB_iff.1 h1
        obtain ⟨-, p4, -⟩ := pointB_iff.1 h2
        have hne : ((n : Int) != (n : Int)) = false := by simp
        have HX := hid (fun i (hi : i < n) => allB_nth p2 (k := i) (by omega))
        have HY := hid (fun i (hi : i < n) => allB_nth p4 (k := i) (by omega))
        have h8 : n ≤ 8 := by omega
        have HTL := hid (totC_le xs ys n)
        have HRL := hid (rowC_le xs ys)
        have HDL := hid (partD_le xs ys)
        clear h1 h2 p1 p2 p4 hl hl'
        go_enter Try.func8, Try.ntmps8
        go_wp2_with fail
        refine (rePoint_any _ _ _ _ _ h).mono ?_
        rintro e w1 ⟨rfl, hq1⟩
        rw [H1.out]
        have hb1 : Below w.heap.size w w1 := hq1.below _
        go_wp2_with fail
        refine (rePoint_any _ _ _ _ _ (h'.below hb1 (Nat.le_refl _))).mono ?_
        rintro e w2 ⟨rfl, hq2⟩
        rw [H2.out]
        have hb2 := quiet_below hb1 hq2
        clear hq1 hq2
        go_wp2_with fail
        go_loopw [6, 28] (fun t i wr => ∃ k : Nat, k ≤ n ∧ i = .int .i64 (k : Int) ∧ t = .int .i64 (totC xs ys n k : Int) ∧ Below w.heap.size w wr) (fun _ i _ => n - (intOf i).toNat)
        case atStart => exact ⟨0, by omega, rfl, rfl, hb2⟩
        case round =>
          clear hb1 hb2
          obtain ⟨k, hk, rfl, rfl, hb⟩ := hrel
          have ht := HTL.out k
          have ht2 : 2 * n * k ≤ 2 * 8 * 8 := Nat.mul_le_mul (by omega) (by omega)
          by_cases hkn : k < n
          · have HT1 : Hid (totC xs ys n (k + 1) = totC xs ys n k + rowC xs ys k n) := hid rfl
            have HZ := hid (rowC_low xs ys k (k + 1) (Nat.le_refl _))
            obtain ⟨t0, ht0⟩ : ∃ t, totC xs ys n k = t := ⟨_, rfl⟩
            rw [ht0] at ht HT1 ⊢
            clear ht0
            go_wp2_with fail
            go_loopw [6, 8] (fun t j wr => ∃ s : Nat, k + 1 ≤ s ∧ s ≤ n ∧ j = .int .i64 (s : Int) ∧ t = .int .i64 ((t0 + rowC xs ys k s : Nat) : Int) ∧ Below w.heap.size w wr) (fun _ j _ => n - (intOf j).toNat)
            case atStart => exact ⟨k + 1, by omega, by omega, by go_num, by rw [HZ.out]; rfl, hb⟩
            case round =>
              clear hb
              obtain ⟨s, hs1, hs2, rfl, rfl, hb⟩ := hrel
              have hr := HRL.out k s
              by_cases hsn : s < n
              · have HT2 : Hid (rowC xs ys k (s + 1) = rowC xs ys k s + dTwo xs ys k s) := hid (by rw [rowC, if_pos (by omega)])
                have HP2 := hid (partD_two xs ys k s)
                obtain ⟨r0, hr0⟩ : ∃ r, t0 + rowC xs ys k s = r := ⟨_, rfl⟩
                have HR0 := hid hr0
                have hr9 : r0 ≤ 144 := by omega
                rw [hr0]
                clear hr0
                have hbA := hb.alloc hb.size (.cells #[.int .i64 0, .int .i64 100] 3)
                have hsA : (wr.alloc (.cells #[.int .i64 0, .int .i64 100] 3)).heap.size = wr.heap.size + 1 := by simp
                have hLit := has_two wr
                obtain ⟨V, hV⟩ : ∃ V, wr.alloc (.cells #[.int .i64 0, .int .i64 100] 3) = V := ⟨_, rfl⟩
                rw [hV] at hbA hsA hLit
                have HV := hid hV
                clear hV
                obtain ⟨g, hg⟩ : ∃ g, wr.heap.size = g := ⟨_, rfl⟩
                go_wp2_with fail
                rw [HV.out]
                rw [hg] at hLit hsA
                clear HV hg
                go_loopw [6, 41] (fun t q wx => ∃ u : Nat, u ≤ 2 ∧ q = .int .i64 (u : Int) ∧ t = .int .i64 ((r0 + partD xs ys k s u : Nat) : Int) ∧ Quiet V wx) (fun _ q _ => 2 - (intOf q).toNat)
                case atStart => exact ⟨0, by omega, rfl, rfl, ⟨0, rfl⟩⟩
                case round =>
                  obtain ⟨u, hu, rfl, rfl, hq⟩ := hrel
                  have hpl := HDL.out k s u
                  by_cases hu2 : u < 2
                  · obtain ⟨q0, hq0⟩ := hq
                    subst hq0
                    have hx := h.below hbA (Nat.le_refl _)
                    have hy := h'.below hbA (Nat.le_refl _)
                    obtain ⟨b0, off, rfl, hbb, hc⟩ := hx.2.2.2.2 (by omega)
                    obtain ⟨b1, off1, rfl, hbb1, hc1⟩ := hy.2.2.2.2 (by omega)
                    have x1 := hc k hkn
                    have x2 := hc s hsn
                    have y1 := hc1 k hkn
                    have y2 := hc1 s hsn
                    obtain ⟨e1, e2⟩ := HX.out k hkn
                    obtain ⟨e3, e4⟩ := HX.out s hsn
                    obtain ⟨f1, f2⟩ := HY.out k hkn
                    obtain ⟨f3, f4⟩ := HY.out s hsn
                    have wx1 : IntKind.i64.wrap (nth xs k - nth xs s) = nth xs k - nth xs s := IntWalk.i64_in _ (by omega)
                    have wy1 : IntKind.i64.wrap (nth ys k - nth ys s) = nth ys k - nth ys s := IntWalk.i64_in _ (by omega)
                    obtain ⟨bL, offL, eL, hbL, hcL⟩ := hLit.2.2.2.2 (by omega)
                    cases eL
                    have hkn2 : (k : Int) < (n : Int) := by omega
                    have hk0 : (0 : Int) ≤ (k : Int) := by omega
                    have hsn2 : (s : Int) < (n : Int) := by omega
                    have hs0 : (0 : Int) ≤ (s : Int) := by omega
                    have HDF : Hid (∀ c, df xs ys k s c = if decide (c < nth xs k - nth xs s) = decide (c < nth ys k - nth ys s) then 0 else 1) := hid (fun c => rfl)
                    clear hc hc1 e1 e2 e3 e4 f1 f2 f3 f4
                    generalize nth xs k = xk at *
                    generalize nth xs s = xq at *
                    generalize nth ys k = yk at *
                    generalize nth ys s = yq at *
                    rcases (show u = 0 ∨ u = 1 by omega) with rfl | rfl
                    · have hcl : V.cell? ⟨g, 0, none⟩ = some (.int .i64 0) := hcL 0 (by omega)
                      have HPN : Hid (partD xs ys k s 1 = partD xs ys k s 0 + df xs ys k s 0) := hid (by simp [partD])
                      obtain ⟨pp, hpp⟩ : ∃ p, partD xs ys k s 0 = p := ⟨_, rfl⟩
                      rw [hpp] at HPN hpl ⊢
                      have HDc := hid (HDF.out 0)
                      clear hcL hpp
                      by_cases hcx : 0 < xk - xq
                      · by_cases hcy : 0 < yk - yq
                        · have hdx : decide (0 < xk - xq) = true := by simpa using hcx
                          have hcx2 : xq < xk := by omega
                          have hdx2 : decide (xq < xk) = true := by simpa using hcx2
                          have hdy : decide (0 < yk - yq) = true := by simpa using hcy
                          have hcy2 : yq < yk := by omega
                          have hdy2 : decide (yq < yk) = true := by simpa using hcy2
                          have hdf : df xs ys k s 0 = 0 := by rw [HDc.out, hdx, hdy]; simp
                          go_wp2_with fail
                          go_quiet (fail)
                          go_wp2_with fail
                          go_roundw
                          case rel => exact ⟨1, by omega, by go_num, congrArg (Value.int .i64) (by have := HPN.out; omega), ⟨_, rfl⟩⟩
                          case measure => simp [intOf]
                        · have hdx : decide (0 < xk - xq) = true := by simpa using hcx
                          have hcx2 : xq < xk := by omega
                          have hdx2 : decide (xq < xk) = true := by simpa using hcx2
                          have hdy : decide (0 < yk - yq) = false := by simpa using hcy
                          have hcy2 : ¬ yq < yk := by omega
                          have hdy2 : decide (yq < yk) = false := by simpa using hcy2
                          have hdf : df xs ys k s 0 = 1 := by rw [HDc.out, hdx, hdy]; simp
                          go_wp2_with fail
                          go_quiet (fail)
                          go_wp2_with fail
                          go_roundw
                          case rel => exact ⟨1, by omega, by go_num, congrArg (Value.int .i64) (by have := HPN.out; omega), ⟨_, rfl⟩⟩
                          case measure => simp [intOf]
                      · by_cases hcy : 0 < yk - yq
                        · have hdx : decide (0 < xk - xq) = false := by simpa using hcx
                          have hcx2 : ¬ xq < xk := by omega
                          have hdx2 : decide (xq < xk) = false := by simpa using hcx2
                          have hdy : decide (0 < yk - yq) = true := by simpa using hcy
                          have hcy2 : yq < yk := by omega
                          have hdy2 : decide (yq < yk) = true := by simpa using hcy2
                          have hdf : df xs ys k s 0 = 1 := by rw [HDc.out, hdx, hdy]; simp
                          go_wp2_with fail
                          go_quiet (fail)
                          go_wp2_with fail
                          go_roundw
                          case rel => exact ⟨1, by omega, by go_num, congrArg (Value.int .i64) (by have := HPN.out; omega), ⟨_, rfl⟩⟩
                          case measure => simp [intOf]
                        · have hdx : decide (0 < xk - xq) = false := by simpa using hcx
                          have hcx2 : ¬ xq < xk := by omega
                          have hdx2 : decide (xq < xk) = false := by simpa using hcx2
                          have hdy : decide (0 < yk - yq) = false := by simpa using hcy
                          have hcy2 : ¬ yq < yk := by omega
                          have hdy2 : decide (yq < yk) = false := by simpa using hcy2
                          have hdf : df xs ys k s 0 = 0 := by rw [HDc.out, hdx, hdy]; simp
                          go_wp2_with fail
                          go_quiet (fail)
                          go_wp2_with fail
                          go_roundw
                          case rel => exact ⟨1, by omega, by go_num, congrArg (Value.int .i64) (by have := HPN.out; omega), ⟨_, rfl⟩⟩
                          case measure => simp [intOf]
                    · have hcl : V.cell? ⟨g, 1, none⟩ = some (.int .i64 100) := hcL 1 (by omega)
                      have HPN : Hid (partD xs ys k s 2 = partD xs ys k s 1 + df xs ys k s 100) := hid (by simp [partD])
                      obtain ⟨pp, hpp⟩ : ∃ p, partD xs ys k s 1 = p := ⟨_, rfl⟩
                      rw [hpp] at HPN hpl ⊢
                      have HDc := hid (HDF.out 100)
                      clear hcL hpp
                      by_cases hcx : 100 < xk - xq
                      · by_cases hcy : 100 < yk - yq
                        · have hdx : decide (100 < xk - xq) = true := by simpa using hcx
                          have hdy : decide (100 < yk - yq) = true := by simpa using hcy
                          have hdf : df xs ys k s 100 = 0 := by rw [HDc.out, hdx, hdy]; simp
                          go_wp2_with fail
                          go_quiet (fail)
                          go_wp2_with fail
                          go_roundw
                          case rel => exact ⟨2, by omega, by go_num, congrArg (Value.int .i64) (by have := HPN.out; omega), ⟨_, rfl⟩⟩
                          case measure => simp [intOf]
                        · have hdx : decide (100 < xk - xq) = true := by simpa using hcx
                          have hdy : decide (100 < yk - yq) = false := by simpa using hcy
                          have hdf : df xs ys k s 100 = 1 := by rw [HDc.out, hdx, hdy]; simp
                          go_wp2_with fail
                          go_quiet (fail)
                          go_wp2_with fail
                          go_roundw
                          case rel => exact ⟨2, by omega, by go_num, congrArg (Value.int .i64) (by have := HPN.out; omega), ⟨_, rfl⟩⟩
                          case measure => simp [intOf]
                      · by_cases hcy : 100 < yk - yq
                        · have hdx : decide (100 < xk - xq) = false := by simpa using hcx
                          have hdy : decide (100 < yk - yq) = true := by simpa using hcy
                          have hdf : df xs ys k s 100 = 1 := by rw [HDc.out, hdx, hdy]; simp
                          go_wp2_with fail
                          go_quiet (fail)
                          go_wp2_with fail
                          go_roundw
                          case rel => exact ⟨2, by omega, by go_num, congrArg (Value.int .i64) (by have := HPN.out; omega), ⟨_, rfl⟩⟩
                          case measure => simp [intOf]
                        · have hdx : decide (100 < xk - xq) = false := by simpa using hcx
                          have hdy : decide (100 < yk - yq) = false := by simpa using hcy
                          have hdf : df xs ys k s 100 = 0 := by rw [HDc.out, hdx, hdy]; simp
                          go_wp2_with fail
                          go_quiet (fail)
                          go_wp2_with fail
                          go_roundw
                          case rel => exact ⟨2, by omega, by go_num, congrArg (Value.int .i64) (by have := HPN.out; omega), ⟨_, rfl⟩⟩
                          case measure => simp [intOf]
                  · obtain rfl : u = 2 := by omega
                    have hb9 := quiet_below hbA hq
                    go_wp2_with fail
                    go_roundw
                    case rel => exact ⟨s + 1, by omega, by omega, by go_num, congrArg (Value.int .i64) (by have := HT2.out; have := HP2.out; have := HR0.out; omega), hb9⟩
                    case measure => simp [intOf]; omega
              · obtain rfl : s = n := by omega
                go_wp2_with fail
                go_roundw
                case rel => exact ⟨k + 1, by omega, by go_num, congrArg (Value.int .i64) (by have := HT1.out; omega), hb⟩
                case measure => simp [intOf]; omega
          · obtain rfl : k = n := by omega
            go_wp2_with fail
            go_ret2
            exact postInt HR.out hb
      · have HR := hid (betS_no3 hl hl' h3)
        have hne : ((n : Int) != (m : Int)) = true := by simp; omega
        clear h1 h2 hl hl'
        go_enter Try.func8, Try.ntmps8
        go_wp2_with fail
        refine (rePoint_any _ _ _ _ _ h).mono ?_
        rintro e w1 ⟨rfl, hq1⟩
        rw [H1.out]
        have hb1 : Below w.heap.size w w1 := hq1.below _
        go_wp2_with fail
        refine (rePoint_any _ _ _ _ _ (h'.below hb1 (Nat.le_refl _))).mono ?_
        rintro e w2 ⟨rfl, hq2⟩
        rw [H2.out]
        go_wp2_with fail
        go_ret2
        exact postInt HR.out (quiet_below hb1 hq2)
    · have H2 := hid (Bool.eq_false_iff.2 h2)
      have HR := hid (betS_no2 (xs := xs) H2.out)
      clear h1 h2 hl hl'
      go_enter Try.func8, Try.ntmps8
      go_wp2_with fail
      refine (rePoint_any _ _ _ _ _ h).mono ?_
      rintro e w1 ⟨rfl, hq1⟩
      rw [H1.out]
      have hb1 : Below w.heap.size w w1 := hq1.below _
      go_wp2_with fail
      refine (rePoint_any _ _ _ _ _ (h'.below hb1 (Nat.le_refl _))).mono ?_
      rintro e w2 ⟨rfl, hq2⟩
      rw [H2.out]
      go_wp2_with fail
      go_ret2
      exact postInt HR.out (quiet_below hb1 hq2)
  · have H1 := hid (Bool.eq_false_iff.2 h1)
    have HR := hid (betS_no1 (ys := ys) H1.out)
    clear h1 hl hl'
    go_enter Try.func8, Try.ntmps8
    go_wp2_with fail
    refine (rePoint_any _ _ _ _ _ h).mono ?_
    rintro e w1 ⟨rfl, hq1⟩
    rw [H1.out]
    go_wp2_with fail
    go_ret2
    exact postInt HR.out (hq1.below _)
end Go.Proofs.Ytnddplldkgphnac

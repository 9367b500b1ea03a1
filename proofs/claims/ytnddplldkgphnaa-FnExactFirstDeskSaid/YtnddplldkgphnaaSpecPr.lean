/- The model's tables: costs, what it takes for a table. -/
import Derived.Test.YtnddplldkgphnaaSpecA
import Derived.Test.YtnddplldkgphnaaSpecS
import Derived.Test.YtnddplldkgphnaaImplRd
import Derived.Deep.QuietTactic
import Derived.BigQuiet
namespace Go.Proofs.Ytnddplldkgphnaa
open Go.RowKit

/-- A value in a variable of its own. -/
theorem boxed (w : World) (v : Value) (t : TypeId) : ∃ W, w.alloc (.cells #[v] t) = W ∧ CellAt W w.heap.size v ∧ Below w.heap.size w W ∧ W.heap.size = w.heap.size + 1 :=
  ⟨_, rfl, cellAt_new w v t, (Below.refl _ w).alloc (Nat.le_refl _) _, by simp⟩
theorem cost_emod {n c : Nat} {key : Int} (hn : 0 < n) (h0 : 0 ≤ key) : ((c : Int) - key % (n : Int) + (n : Int)) % (n : Int) = (costN n key c : Nat) := by
  rw [own_emod h0]
  exact way_emod (own_lt hn)

set_option maxHeartbeats 400000 in
theorem prCost_any (key : Int) (c n : Nat) (w : World) (h0 : 0 ≤ key) (hn : 0 < n) (hc : c < 1000) (hn2 : n < 1000) :
    Calls Try.prog 42 #[.int .i64 key, .int .i64 (c : Int), .int .i64 (n : Int)] w fun e w' => e = .returned (.int .i64 (costN n key c : Nat)) ∧ w = w' := by
  have hz : ¬ ((n : Int) = 0) := by omega
  have HT := hid (cost_emod (c := c) hn h0)
  have h1 := Int.emod_nonneg key hz
  have h2 := Int.emod_lt_of_pos key (show (0 : Int) < n by omega)
  have h3 : key.tmod (n : Int) = key % (n : Int) := Int.tmod_eq_emod_of_nonneg h0
  go_enter Try.func42, Try.ntmps42
  go_wp2_with fail
  go_ret
  exact ⟨ret_int HT.out, rfl⟩

/-- A cell k cells before one that lies d cells behind another. -/
theorem way_back {n a d k : Nat} (hk : k ≤ d) (hd : d < n) : ((a + d) % n + n - k) % n = (a + (d - k)) % n := by
  have h1 : ((a + d) % n + n - k) % n = ((a + d) % n + (n - k)) % n := by rw [show (a + d) % n + n - k = (a + d) % n + (n - k) by omega]
  rw [h1, Nat.mod_add_mod, show a + d + (n - k) = a + (d - k) + n by omega, Nat.add_mod_right]
theorem back_emod {n c k : Nat} (hk : k ≤ n) : ((c : Int) - (k : Int) + (n : Int)) % (n : Int) = ((c + n - k) % n : Nat) := by
  rw [Int.natCast_emod, show ((c + n - k : Nat) : Int) = (c : Int) - (k : Int) + (n : Int) by omega]

theorem tbl_no1 {cs : List Int} (h : inB cs.length 2 12 = false) : tblB cs = false := by simp [tblB, h]
theorem tbl_no2 {cs : List Int} (h : allB cs (-1) 999 = false) : tblB cs = false := by simp [tblB, h]
theorem tbl_no3 {cs : List Int} (h : hasB cs (-1) = false) : tblB cs = false := by simp [tblB, h]
theorem tbl_no4 {cs : List Int} {c : Nat} (hc : c < cs.length) (h : cellOk cs c = false) : tblB cs = false := by
  have : ((List.range cs.length).all fun c => cellOk cs c) = false := by
    rw [List.all_eq_false]
    exact ⟨c, by simpa using hc, by simp [h]⟩
  simp [tblB, this]
theorem tbl_yes {cs : List Int} (h1 : inB cs.length 2 12 = true) (h2 : allB cs (-1) 999 = true) (h3 : hasB cs (-1) = true) (h4 : ∀ c, c < cs.length → cellOk cs c = true) : tblB cs = true := by
  simp only [tblB, h1, h2, h3, Bool.true_and, List.all_eq_true, List.mem_range]
  exact h4
theorem cellOk_free {cs : List Int} {c : Nat} (h : nth cs c = -1) : cellOk cs c = true := by simp [cellOk, h]
theorem cellOk_key {cs : List Int} {c : Nat} (h : nth cs c ≠ -1) : cellOk cs c = (!hasB (cs.take c) (nth cs c) && full cs (nth cs c) (costN cs.length (nth cs c) c)) := by simp [cellOk, h]
theorem full_no {cs : List Int} {key : Int} {d j : Nat} (hj : j < d) (h : nth cs ((ownN cs.length key + j) % cs.length) = -1) : full cs key d = false := by
  rw [← Bool.not_eq_true, full_iff]
  intro hh
  exact hh j hj h

set_option maxRecDepth 100000 in
set_option maxHeartbeats 4000000 in
theorem prGood_any (a : Option Addr) (n cap : Nat) (cs : List Int) (w : World) (h : Has w a n cap cs) :
    Calls Try.prog 32 #[.agg #[.slice a n cap]] w fun e w' => e = .returned (.bool (tblB cs)) ∧ Below w.heap.size w w' := by
  obtain rfl := h.len
  have hle := h.le
  obtain ⟨W, hW, C, hbW, hsW⟩ := boxed w (.slice a cs.length cap) 24
  have hH := h.below hbW (Nat.le_refl _)
  obtain ⟨y1, y2⟩ := id C
  by_cases h1 : inB cs.length 2 12 = true
  · have H1 := hid h1
    have h12 := inB_iff.1 h1
    clear h1
    by_cases h2 : allB cs (-1) 999 = true
    · have H2 := hid h2
      clear h2
      by_cases h3 : hasB cs (-1) = true
      · have H3 := hid h3
        clear h3
        obtain ⟨b, off, rfl, hbw, -⟩ := h.2.2.2.2 (by omega)
        obtain ⟨b2, off2, e2, -, hcc⟩ := hH.2.2.2.2 (by omega)
        cases e2
        have HCC := hid hcc
        clear hcc
        go_enter Try.func32, Try.ntmps32
        go_wp2_with (first | (go_at_call 40; refine (l1In_any _ _ _ _).mono ?_; rintro e w' ⟨rfl, rfl⟩; rw [H1.out]) | (go_at_call 38; refine (l1All_any _ _ _ _ _ _ _ hH).mono ?_; rintro e w' ⟨rfl, rfl⟩; rw [H2.out]) | (go_at_call 41; refine (l1Has_any _ _ _ _ _ _ hH).mono ?_; rintro e w' ⟨rfl, rfl⟩; rw [H3.out]))
        go_loopw [28] (fun i wr => ∃ k : Nat, i = .int .i64 k ∧ k ≤ cs.length ∧ Hid (∀ c, c < k → cellOk cs c = true) ∧ Quiet W wr) (fun i _ => cs.length - (intOf i).toNat)
        case atStart => exact ⟨0, rfl, by omega, hid (fun c hc => by omega), ⟨0, rfl⟩⟩
        case round =>
          obtain ⟨k, rfl, hk, HA, HQ⟩ := hrel
          have hHr : Has wr (some ⟨b, off, none⟩) cs.length cap cs := by obtain ⟨t, ht⟩ := HQ; rw [ht]; exact hH
          have z1 : wr.cell? ⟨w.heap.size, 0, none⟩ = some (.slice (some ⟨b, off, none⟩) cs.length cap) := by obtain ⟨t, ht⟩ := HQ; rw [ht]; exact y1
          have HCr : Hid (∀ i, i < cs.length → wr.cell? ⟨b, off + i, none⟩ = some (.int .i64 (nth cs i))) := by obtain ⟨t, ht⟩ := HQ; rw [ht]; exact HCC
          have hbr : Below w.heap.size w wr := by obtain ⟨t, ht⟩ := HQ; rw [ht]; exact below_drewN hbW _
          by_cases hlt : k < cs.length
          · have hck := HCr.out k hlt
            by_cases he : nth cs k = -1
            · have hb1 : (nth cs k == -1) = true := by simp [he]
              have HC := hid (cellOk_free he)
              clear he
              go_wp2_with fail
              go_roundw
              case rel => exact ⟨k + 1, by go_num, by omega, hid (fun c hc => by rcases Nat.lt_succ_iff_lt_or_eq.1 hc with h1 | rfl; exact HA.out c h1; exact HC.out), HQ⟩
              case measure => simp [intOf]; omega
            · have hb1 : (nth cs k == -1) = false := by simp [he]
              have HC := hid (cellOk_key he)
              have hk0 : 0 ≤ nth cs k := by have := allB_nth H2.out hlt; omega
              clear he
              have hT := hHr.take (k := k) (by omega)
              have hki : (k : Int) ≤ (cap : Int) := by have := hH.2.1; omega
              by_cases hh : hasB (cs.take k) (nth cs k) = true
              · have HN : Hid (tblB cs = false) := hid (tbl_no4 hlt (by rw [HC.out, hh]; rfl))
                have HH := hid hh
                clear hh
                go_wp2_with (go_at_call 41; refine (l1Has_any _ _ _ _ _ _ hT).mono ?_; rintro e w' ⟨rfl, rfl⟩; rw [HH.out])
                go_ret
                exact ⟨ret_bool (by rw [HN.out]), hbr⟩
              · have HH := hid (Bool.eq_false_iff.2 hh)
                clear hh
                go_wp2_with (first | (go_at_call 41; refine (l1Has_any _ _ _ _ _ _ hT).mono ?_; rintro e w' ⟨rfl, rfl⟩; rw [HH.out]) | (go_at_call 42; refine (prCost_any (nth cs k) k cs.length _ hk0 (by omega) (by omega) (by omega)).mono ?_; rintro e w' ⟨rfl, rfl⟩))
                obtain ⟨d, hd⟩ : ∃ d, costN cs.length (nth cs k) k = d := ⟨_, rfl⟩
                have hdl : d < cs.length := by rw [← hd]; exact way_lt (by omega)
                have HW : Hid ((ownN cs.length (nth cs k) + d) % cs.length = k) := hid (by rw [← hd]; exact way_at (own_lt (by omega)) hlt)
                have HD := hid hd
                rw [hd]
                clear hd hck hHr HCr z1 hT
                obtain ⟨wo, hwo⟩ : ∃ wo : World, wo = wr := ⟨_, rfl⟩
                subst hwo
                go_loopw [6] (fun i wr => ∃ j : Nat, i = .int .i64 j ∧ j ≤ d ∧ Hid (∀ t, t < d - j → nth cs ((ownN cs.length (nth cs k) + t) % cs.length) ≠ -1) ∧ Quiet W wr) (fun i _ => (intOf i).toNat)
                case atStart => exact ⟨d, rfl, Nat.le_refl _, hid (fun t ht => by omega), HQ⟩
                case round =>
                  clear hbr HQ
                  obtain ⟨j, rfl, hj, HF, HQ⟩ := hrel
                  have z1 : wr.cell? ⟨w.heap.size, 0, none⟩ = some (.slice (some ⟨b, off, none⟩) cs.length cap) := by obtain ⟨t, ht⟩ := HQ; rw [ht]; exact y1
                  have HCr : Hid (∀ i, i < cs.length → wr.cell? ⟨b, off + i, none⟩ = some (.int .i64 (nth cs i))) := by obtain ⟨t, ht⟩ := HQ; rw [ht]; exact HCC
                  have hbr : Below w.heap.size w wr := by obtain ⟨t, ht⟩ := HQ; rw [ht]; exact below_drewN hbW _
                  by_cases hj0 : 0 < j
                  · have hjp : (0 : Int) < (j : Int) := by omega
                    obtain ⟨p, hp⟩ : ∃ p, (ownN cs.length (nth cs k) + (d - j)) % cs.length = p := ⟨_, rfl⟩
                    have hp1 : p < cs.length := by rw [← hp]; exact Nat.mod_lt _ (by omega)
                    have hpe : ((k : Int) - (j : Int) + (cs.length : Int)) % (cs.length : Int) = (p : Int) := by
                      rw [back_emod (by omega)]
                      have := way_back (n := cs.length) (a := ownN cs.length (nth cs k)) hj hdl
                      rw [HW.out, hp] at this
                      rw [this]
                    have hpt : ((k : Int) - (j : Int) + (cs.length : Int)).tmod (cs.length : Int) = (p : Int) := by rw [Int.tmod_eq_emod_of_nonneg (by omega), hpe]
                    have hz : ¬ ((cs.length : Int) = 0) := by omega
                    have hp2 : (p : Int) < (cs.length : Int) := by omega
                    have hp3 : (0 : Int) ≤ (p : Int) := by omega
                    have hcp := HCr.out p hp1
                    have HP := hid hp
                    clear hp
                    by_cases he2 : nth cs p = -1
                    · have hb2 : (nth cs p == -1) = true := by simp [he2]
                      have HN : Hid (tblB cs = false) := hid (tbl_no4 hlt (by rw [HC.out, HD.out, full_no (j := d - j) (by omega) (by rw [HP.out]; exact he2)]; simp))
                      clear he2
                      go_wp2_with fail
                      go_quiet (fail)
                      go_wp2_with fail
                      go_ret
                      exact ⟨ret_bool (by rw [HN.out]), below_drewN hbr _⟩
                    · have hb2 : (nth cs p == -1) = false := by simp [he2]
                      have HF2 : Hid (∀ t, t < d - (j - 1) → nth cs ((ownN cs.length (nth cs k) + t) % cs.length) ≠ -1) := hid (fun t ht => by
                        by_cases e : t = d - j
                        · rw [e, HP.out]; exact he2
                        · exact HF.out t (by omega))
                      clear he2
                      go_wp2_with fail
                      go_quiet (fail)
                      go_wp2_with fail
                      go_roundw
                      case rel => exact ⟨j - 1, by go_num, by omega, HF2, HQ.more _⟩
                      case measure => simp [intOf]; omega
                  · obtain rfl : j = 0 := by omega
                    have HOK : Hid (cellOk cs k = true) := hid (by rw [HC.out, HD.out, HH.out, show full cs (nth cs k) d = true from full_iff.2 (fun t ht => HF.out t (by omega))]; rfl)
                    go_wp2_with fail
                    go_roundw
                    case rel => exact ⟨k + 1, by go_num, by omega, hid (fun c hc => by rcases Nat.lt_succ_iff_lt_or_eq.1 hc with h1 | rfl; exact HA.out c h1; exact HOK.out), HQ⟩
                    case measure => simp [intOf]; omega
          · obtain rfl : k = cs.length := by omega
            have HY : Hid (tblB cs = true) := hid (tbl_yes H1.out H2.out H3.out (fun c hc => HA.out c (by omega)))
            go_wp2_with fail
            go_ret
            exact ⟨ret_bool (by rw [HY.out]), hbr⟩
      · have H3 := hid (Bool.eq_false_iff.2 h3)
        have HN := hid (tbl_no3 H3.out)
        clear h3
        go_enter Try.func32, Try.ntmps32
        go_wp2_with (first | (go_at_call 40; refine (l1In_any _ _ _ _).mono ?_; rintro e w' ⟨rfl, rfl⟩; rw [H1.out]) | (go_at_call 38; refine (l1All_any _ _ _ _ _ _ _ hH).mono ?_; rintro e w' ⟨rfl, rfl⟩; rw [H2.out]) | (go_at_call 41; refine (l1Has_any _ _ _ _ _ _ hH).mono ?_; rintro e w' ⟨rfl, rfl⟩; rw [H3.out]))
        go_ret
        exact ⟨ret_bool (by rw [HN.out]), hbW⟩
    · have H2 := hid (Bool.eq_false_iff.2 h2)
      have HN := hid (tbl_no2 H2.out)
      clear h2
      go_enter Try.func32, Try.ntmps32
      go_wp2_with (first | (go_at_call 40; refine (l1In_any _ _ _ _).mono ?_; rintro e w' ⟨rfl, rfl⟩; rw [H1.out]) | (go_at_call 38; refine (l1All_any _ _ _ _ _ _ _ hH).mono ?_; rintro e w' ⟨rfl, rfl⟩; rw [H2.out]))
      go_ret
      exact ⟨ret_bool (by rw [HN.out]), hbW⟩
  · have H1 := hid (Bool.eq_false_iff.2 h1)
    have HN := hid (tbl_no1 H1.out)
    clear h1
    go_enter Try.func32, Try.ntmps32
    go_wp2_with (go_at_call 40; refine (l1In_any _ _ _ _).mono ?_; rintro e w' ⟨rfl, rfl⟩; rw [H1.out])
    go_ret
    exact ⟨ret_bool (by rw [HN.out]), hbW⟩
end Go.Proofs.Ytnddplldkgphnaa

/- The model's inversions. -/
import Derived.Test.YtlfbmpgjhnpceabSpecTv
import Derived.Test.YtlfbmpgjhnpceabMathIv
import Derived.Test.YtlfbmpgjhnpceabLit2
namespace Go.Proofs.Ytlfbmpgjhnpceab
open Go.RowKit

set_option maxHeartbeats 1000000 in
theorem trPairs_any (a : Option Addr) (n cap : Nat) (xs : List Int) (w : World) (h : Has w a n cap xs) (ht : Tree xs n) (h8 : n ≤ 8) :
    Calls Try.prog 117 #[.slice a n cap] w (RowsRet w (invL xs)) := by
  have HL := hid h.len
  have HT := hid ht
  clear ht
  go_enter Try.func117, Try.ntmps117
  go_wp2_with fail
  go_loopw [3, 4] (fun o i wr => ∃ (k q : Nat) (a' : Option Addr) (cq : Nat) (rs : List Rw), k ≤ n ∧ q ≤ 8 * k ∧ i = .int .i64 ((k : Int) + 1) ∧ o = .slice a' q cq ∧ OwnR wr w.heap.size a' q cq rs ∧ Hid (numsOf rs = invTo xs k) ∧ Below w.heap.size w wr) (fun _ i _ => n + 1 - (intOf i).toNat)
  case atStart => exact ⟨0, 0, none, 0, [], Nat.zero_le _, Nat.zero_le _, rfl, rfl, OwnR.nil _ _, hid rfl, Below.refl _ _⟩
  case round =>
    obtain ⟨wo, rfl⟩ : ∃ wo : World, wo = wr := ⟨_, rfl⟩
    obtain ⟨k, q, a', cq, rs, hk, hq, rfl, rfl, hown, HN, hb⟩ := hrel
    by_cases hlt : k < n
    · go_wp2_with fail
      refine (trAbove_at _ _ _ _ (k + 1) _ _ (by omega) (h.below hb (Nat.le_refl _)) HT.out (by omega)).mono ?_
      rintro e w2 ⟨a2, m2, cap2, rfl, hown2, hb2⟩
      have hownX := hown.below hb2 (Nat.le_refl _)
      have hbX := hb.trans (hb2.mono hb.size)
      have hb0 := hb.size
      have hA := hown2
      have hAlt : wo.heap.size ≤ w2.heap.size := hb2.size
      clear hown hb
      go_wp2_with fail
      go_loopw [3, 6] (fun o jv wr => ∃ (c q : Nat) (a' : Option Addr) (cq : Nat) (rs : List Rw), c ≤ n - (k + 1) ∧ q ≤ 8 * k + c ∧ jv = .int .i64 (((k + 1 + 1 + c : Nat)) : Int) ∧ o = .slice a' q cq ∧ OwnR wr w.heap.size a' q cq rs ∧ Hid (numsOf rs = invTo xs k ++ invRow xs (k + 1) c) ∧ Own wr wo.heap.size a2 m2 cap2 (abv xs ((k + 1 : Nat) : Int)) ∧ Below w.heap.size w wr) (fun _ jv _ => n + 1 - (intOf jv).toNat)
      case atStart => exact ⟨0, q, a', cq, rs, Nat.zero_le _, by omega, by go_num, rfl, hownX, hid (by rw [HN.out, invRow_zero, List.append_nil]), hA, hbX⟩
      case round =>
        obtain ⟨c, q1, a1, cq1, rs1, hc, hq1, rfl, rfl, hown1, HN1, hA1, hb1⟩ := hrel
        have hv : Hid (((k + 1 + 1 + c : Nat) : Int) = (k : Int) + 1 + 1 + (c : Int)) := hid (by omega)
        by_cases hlc : c < n - (k + 1)
        · have hcn : k + 1 + 1 + c ≤ n := by omega
          by_cases hh : hasB (abv xs ((k + 1 : Nat) : Int)) ((k + 1 + 1 + c : Nat) : Int) = true
          · have HP := hid (invRow_yes hh)
            rw [hv.out] at hh
            have HH := hid hh
            clear hh
            go_wp2_with fail
            refine (l1Has_any _ _ _ _ _ _ hA1.has).mono ?_
            rintro e w3 ⟨rfl, rfl⟩
            rw [HH.out]
            go_wp2_with (at_builtin; refine wpList_append_lit2k _ rfl _ _ rfl w.heap.size _ _ _ _ _ _ rfl rfl hown1 (by omega) hb1.size ?_; intro a3 cap3 w3 rs3 hn3 hown3 hb3 hk3 _)
            go_roundw
            case rel => exact ⟨c + 1, q1 + 1, a3, cap3, rs3, by omega, by omega, by go_num, rfl, hown3, hid (by rw [hn3, HN1.out, HP.out, List.append_assoc]; simp), hk3 hA1, hb1.trans hb3⟩
            case measure => simp [intOf]; omega
          · have hh := Bool.eq_false_iff.2 hh
            have HP := hid (invRow_no hh)
            rw [hv.out] at hh
            have HH := hid hh
            clear hh
            go_wp2_with fail
            refine (l1Has_any _ _ _ _ _ _ hA1.has).mono ?_
            rintro e w3 ⟨rfl, rfl⟩
            rw [HH.out]
            go_wp2_with fail
            go_roundw
            case rel => exact ⟨c + 1, q1, a1, cq1, rs1, by omega, by omega, by go_num, rfl, hown1, hid (by rw [HN1.out, HP.out]), hA1, hb1⟩
            case measure => simp [intOf]; omega
        · obtain rfl : c = n - (k + 1) := by omega
          have hcn : ¬ k + 1 + 1 + (n - (k + 1)) ≤ n := by omega
          go_wp2_with fail
          go_roundw
          case rel => exact ⟨k + 1, q1, a1, cq1, rs1, by omega, by omega, by go_num, rfl, hown1, hid (by rw [HN1.out, invTo_succ, HL.out]), hb1⟩
          case measure => simp [intOf]; omega
    · obtain rfl : k = n := by omega
      have HE : Hid (numsOf rs = invL xs) := hid (by rw [HN.out, invL, HL.out])
      go_wp2_with fail
      go_ret
      exact ⟨a', q, cq, rs, rfl, hown, HE.out, hb⟩

theorem specPairs_any (a : Option Addr) (n cap : Nat) (xs : List Int) (w : World) (h : Has w a n cap xs) :
    Calls Try.prog 43 #[.slice a n cap] w (PostRows w (invOf xs)) := by
  by_cases hg : treeB xs = true
  · have HR : Hid (invOf xs = (invL xs, true)) := hid (by simp [invOf, hg])
    have ht := tree_of hg h.len
    have HG := hid hg
    clear hg
    go_enter Try.func43, Try.ntmps43
    go_wp2_with (go_at_call 118; refine (trGood_any _ _ _ _ _ h).mono ?_; rintro e w' ⟨rfl, rfl⟩; rw [HG.out])
    refine (trPairs_any _ _ _ _ _ h ht ht.le).mono ?_
    rintro e w1 ⟨a1, q, c1, rs, rfl, hown, hn, hb⟩
    go_wp2_with fail
    go_ret2
    exact postRows HR.out hown hn hb
  · have HR : Hid (invOf xs = ([], false)) := hid (by simp [invOf, hg])
    have HG := hid (Bool.eq_false_iff.2 hg)
    clear hg
    go_enter Try.func43, Try.ntmps43
    go_wp2_with (go_at_call 118; refine (trGood_any _ _ _ _ _ h).mono ?_; rintro e w' ⟨rfl, rfl⟩; rw [HG.out])
    go_ret2
    exact postRows_no HR.out (Below.refl _ _)
theorem specInvs_any (a : Option Addr) (n cap : Nat) (xs : List Int) (w : World) (h : Has w a n cap xs) :
    Calls Try.prog 45 #[.slice a n cap] w (PostInt w (invCnt xs)) := by
  by_cases hg : treeB xs = true
  · have HR : Hid (invCnt xs = (((invL xs).length : Int), true)) := hid (by simp [invCnt, hg])
    have ht := tree_of hg h.len
    have HG := hid hg
    clear hg
    go_enter Try.func45, Try.ntmps45
    go_wp2_with (go_at_call 118; refine (trGood_any _ _ _ _ _ h).mono ?_; rintro e w' ⟨rfl, rfl⟩; rw [HG.out])
    refine (trPairs_any _ _ _ _ _ h ht ht.le).mono ?_
    rintro e w1 ⟨a1, q, c1, rs, rfl, hown, hn, hb⟩
    have HQ : Hid (((invL xs).length : Int) = (q : Int)) := hid (by have := hown.len; rw [← hn]; simp [numsOf]; omega)
    rw [HQ.out] at HR
    go_wp2_with fail
    go_ret2
    exact postInt HR.out hb
  · have HR : Hid (invCnt xs = (0, false)) := hid (by simp [invCnt, hg])
    have HG := hid (Bool.eq_false_iff.2 hg)
    clear hg
    go_enter Try.func45, Try.ntmps45
    go_wp2_with (go_at_call 118; refine (trGood_any _ _ _ _ _ h).mono ?_; rintro e w' ⟨rfl, rfl⟩; rw [HG.out])
    go_ret2
    exact postInt HR.out (Below.refl _ _)
end Go.Proofs.Ytlfbmpgjhnpceab

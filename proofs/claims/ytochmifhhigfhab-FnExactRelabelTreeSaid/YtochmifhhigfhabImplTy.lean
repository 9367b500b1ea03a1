/- RelabelTree: the model's and the program's, by their contracts. -/
import Derived.Test.YtochmifhhigfhabImplTx
namespace Go.Proofs.Ytochmifhhigfhab
open Go.RowKit

set_option maxHeartbeats 1000000 in
theorem trNames_any (a : Option Addr) (m cap : Nat) (ns : List Int) (n : Nat) (w : World) (h : Has w a m cap ns) :
    Calls Try.prog 58 #[.int .i64 (n : Int), .slice a m cap] w fun e w' => e = .returned (.bool (namesB n ns)) ∧ w = w' := by
  have HL := hid h.len
  have hle := h.le
  by_cases hnm : m = n
  · by_cases hb : allB ns 1 n = true
    · have HB := hid hb
      have hbe : ((m : Int) != (n : Int)) = false := by simp [hnm]
      subst hnm
      clear hb
      go_enter Try.func58, Try.ntmps58
      go_wp2_with (go_at_call 71; refine (l1All_any _ _ _ _ _ _ _ h).mono ?_; rintro e w' ⟨rfl, rfl⟩; rw [HB.out])
      go_loop [19] (fun i => ∃ k : Nat, k ≤ m ∧ i = .int .i64 k ∧ distB ns k = true) (fun i => m - (intOf i).toNat)
      case atStart => exact ⟨0, Nat.zero_le _, rfl, by simp [distB]⟩
      case round =>
        obtain ⟨k, hk, rfl, hd⟩ := hrel
        have HD := hid hd
        clear hd
        by_cases hlt : k < m
        · have hh : Has w a k cap (ns.take k) := h.take (by omega)
          obtain ⟨b, off, rfl, hbb, hc⟩ := h.2.2.2.2 (by omega)
          have hck := hc k hlt
          have hcapk : k ≤ cap := by have := h.2.1; omega
          clear hc
          by_cases hm : hasB (ns.take k) (nth ns k) = true
          · have HN : Hid (namesB m ns = false) := hid (by
              have : distB ns m = false := distB_no hlt hm
              simp [namesB, this])
            have HM := hid hm
            clear hm
            go_wp2_with (go_at_call 82; refine (l1Has_any _ _ _ _ _ _ hh).mono ?_; rintro e w' ⟨rfl, rfl⟩; rw [HM.out])
            go_ret
            exact ⟨ret_bool HN.out.symm, rfl⟩
          · have HM := hid (Bool.eq_false_iff.2 hm)
            have HS : Hid (distB ns (k + 1) = true) := hid (by rw [distB_succ, HD.out, HM.out]; rfl)
            clear hm
            go_wp2_with (go_at_call 82; refine (l1Has_any _ _ _ _ _ _ hh).mono ?_; rintro e w' ⟨rfl, rfl⟩; rw [HM.out])
            go_round
            case rel => exact ⟨k + 1, by omega, by go_num, HS.out⟩
            case measure => simp [intOf]; omega
        · obtain rfl : k = m := by omega
          have HN : Hid (namesB k ns = true) := hid (by simp only [namesB]; rw [HB.out, HD.out, HL.out]; simp)
          go_wp2_with fail
          go_ret
          exact ⟨ret_bool HN.out.symm, rfl⟩
    · have HN : Hid (namesB n ns = false) := hid (by simp only [namesB]; rw [Bool.eq_false_iff.2 hb]; simp)
      have HB := hid (Bool.eq_false_iff.2 hb)
      have hbe : ((m : Int) != (n : Int)) = false := by simp [hnm]
      subst hnm
      clear hb
      go_enter Try.func58, Try.ntmps58
      go_wp2_with (go_at_call 71; refine (l1All_any _ _ _ _ _ _ _ h).mono ?_; rintro e w' ⟨rfl, rfl⟩; rw [HB.out])
      go_ret
      exact ⟨ret_bool HN.out.symm, rfl⟩
  · have HN : Hid (namesB n ns = false) := hid (by
      have : ¬ ns.length = n := by rw [HL.out]; exact hnm
      simp [namesB, this])
    have hbe : ((m : Int) != (n : Int)) = true := by simp; omega
    go_enter Try.func58, Try.ntmps58
    go_wp2_with fail
    go_ret
    exact ⟨ret_bool HN.out.symm, rfl⟩

theorem relTo_start {xs ns : List Int} {n : Nat} (h : xs.length = n) : relTo xs ns 0 = List.replicate n 0 := by subst h; rfl

set_option maxRecDepth 100000 in
set_option maxHeartbeats 2000000 in
theorem specRel_any (a b0 : Option Addr) (n m cap cap2 : Nat) (xs ns : List Int) (w : World) (h : Has w a n cap xs) (h' : Has w b0 m cap2 ns) :
    Calls Try.prog 23 #[.slice a n cap, .slice b0 m cap2] w (PostInts w (relOf xs ns)) := by
  have HL := hid h.len
  have HL' := hid h'.len
  by_cases hg : treeB xs = true
  · have HG := hid hg
    have ht := tree_of hg h.len
    have h8 := ht.le
    have HT := hid ht.nthB
    by_cases hn : namesB n ns = true
    · have HR : Hid (relOf xs ns = (relL xs ns, true)) := hid (by simp only [relOf]; rw [hg, HL.out, hn]; rfl)
      have HN := hid hn
      obtain ⟨q1, q2, _⟩ := namesB_iff.1 hn
      have hmn : m = n := by rw [← HL'.out]; exact q1
      subst hmn
      have HB : Hid (∀ i, i < m → 1 ≤ nth ns i ∧ nth ns i ≤ (m : Int)) := hid (fun i hi => q2 _ (nth_mem (by rw [HL'.out]; exact hi)))
      clear hg hn ht q1 q2
      go_enter Try.func23, Try.ntmps23
      go_wp2_with (first | (go_at_call 50; refine (trGood_any _ _ _ _ _ h).mono ?_; rintro e w' ⟨rfl, rfl⟩; rw [HG.out]) | (go_at_call 58; refine (trNames_any _ _ _ _ _ _ h').mono ?_; rintro e w' ⟨rfl, rfl⟩; rw [HN.out]) | (at_make; refine wpList_make_ints _ rfl _ _ rfl _ rfl rfl (by omega) ?_; intro a1 cap1 w1 hown1 hb1))
      go_loopw [24] (fun i wr => ∃ k : Nat, k ≤ m ∧ i = .int .i64 k ∧ Own wr w.heap.size a1 m cap1 (relTo xs ns k) ∧ Below w.heap.size w wr) (fun i _ => m - (intOf i).toNat)
      case atStart => exact ⟨0, by omega, rfl, by rw [relTo_start HL.out]; exact hown1, hb1⟩
      case round =>
        clear hown1 hb1
        obtain ⟨k, hk, rfl, hown, hb⟩ := hrel
        by_cases hlt : k < m
        · obtain ⟨b, off, rfl, hbb, hc⟩ := h.2.2.2.2 (by omega)
          have hck : wr.cell? ⟨b, off + k, none⟩ = some (.int .i64 (nth xs k)) := by rw [hb.cell (p := ⟨b, off + k, none⟩) hbb]; exact hc k hlt
          have hbd := HT.out k hlt
          clear hc
          by_cases h0 : nth xs k = 0
          · have HZ := hid (relTo_zero HL.out HN.out hlt h0)
            rw [h0] at hck
            have H0 := hid h0
            clear h0 hbd
            go_wp2_with fail
            go_roundw
            case rel => exact ⟨k + 1, by omega, by go_num, by rw [HZ.out]; exact hown, hb⟩
            case measure => simp [intOf]; omega
          · have HZ := hid (relTo_one (ns := ns) h0)
            obtain ⟨p, hp⟩ : ∃ p : Nat, nth xs k = (p : Int) + 1 := ⟨(nth xs k).toNat - 1, by omega⟩
            obtain ⟨b', off', rfl, hbb', hc'⟩ := h'.2.2.2.2 (by omega)
            have hnk : wr.cell? ⟨b', off' + k, none⟩ = some (.int .i64 (nth ns k)) := by rw [hb.cell (p := ⟨b', off' + k, none⟩) hbb']; exact hc' k hlt
            have hnp : wr.cell? ⟨b', off' + p, none⟩ = some (.int .i64 (nth ns p)) := by rw [hb.cell (p := ⟨b', off' + p, none⟩) hbb']; exact hc' p (by omega)
            have hbn := HB.out k hlt
            obtain ⟨q, hq⟩ : ∃ q : Nat, nth ns k = (q : Int) + 1 := ⟨(nth ns k).toNat - 1, by omega⟩
            obtain ⟨g, rfl, hg1, hg2, hg3, hg4⟩ := hown.opened (by omega)
            have hqm : q < m := by omega
            have hpm : p < m := by omega
            have hgq := hg3 q hqm
            have hgf := hg4 q
            have HS : Hid (relTo xs ns (k + 1) = (relTo xs ns k).set q (nth ns p)) := hid (by
              rw [HZ.out, hp, hq, show ((q : Int) + 1).toNat - 1 = q by omega, show ((p : Int) + 1).toNat - 1 = p by omega])
            obtain ⟨s1, s2⟩ := hown.set q (nth ns p)
            rw [hp] at hck
            rw [hq] at hnk
            have hkk : (k : Int) < (m : Int) := by omega
            have hkz : (0 : Int) ≤ (k : Int) := by omega
            have hppos : (0 : Int) < (p : Int) + 1 := by omega
            clear hc' hg3 hg4 h0 hp hq hbd hbn
            go_wp2_with fail
            have v1 : IntKind.i64.wrap ((q : Int) + 1 - 1) = (q : Int) := by rw [IntKind.wrap_i64]; omega
            have v2 : IntKind.i64.wrap ((p : Int) + 1 - 1) = (p : Int) := by rw [IntKind.wrap_i64]; omega
            have v3 : IntKind.i64.wrap (q : Int) = (q : Int) := IntWalk.i64_in _ (by omega)
            have v4 : IntKind.i64.wrap (p : Int) = (p : Int) := IntWalk.i64_in _ (by omega)
            go_still_tail 12, (by kernel_rfl)
            clear v1 v2 v3 v4
            change wpList _ _ _ _ _ wr.drew
            go_wp2_with fail
            go_roundw
            case rel => exact ⟨k + 1, by omega, by go_num, by rw [HS.out]; exact s1, (hb.setCell hg1 _).drew⟩
            case measure => simp [intOf]; omega
        · obtain rfl : k = m := by omega
          have HF : Hid (relTo xs ns k = relL xs ns) := hid (by unfold relL; rw [HL.out])
          go_wp2_with fail
          go_ret2
          exact postInts HR.out (by rw [← HF.out]; exact hown) hb
    · have HR : Hid (relOf xs ns = ([], false)) := hid (by simp only [relOf]; rw [HL.out, Bool.eq_false_iff.2 hn]; simp)
      have HN := hid (Bool.eq_false_iff.2 hn)
      clear hg hn ht
      go_enter Try.func23, Try.ntmps23
      go_wp2_with (first | (go_at_call 50; refine (trGood_any _ _ _ _ _ h).mono ?_; rintro e w' ⟨rfl, rfl⟩; rw [HG.out]) | (go_at_call 58; refine (trNames_any _ _ _ _ _ _ h').mono ?_; rintro e w' ⟨rfl, rfl⟩; rw [HN.out]))
      go_ret2
      exact postInts_no HR.out (Below.refl _ _)
  · have HR : Hid (relOf xs ns = ([], false)) := hid (by simp [relOf, hg])
    have HG := hid (Bool.eq_false_iff.2 hg)
    clear hg
    go_enter Try.func23, Try.ntmps23
    go_wp2_with (go_at_call 50; refine (trGood_any _ _ _ _ _ h).mono ?_; rintro e w' ⟨rfl, rfl⟩; rw [HG.out])
    go_ret2
    exact postInts_no HR.out (Below.refl _ _)

set_option maxRecDepth 100000 in
set_option maxHeartbeats 2000000 in
theorem implRel_any (a b0 : Option Addr) (n m cap cap2 : Nat) (xs ns : List Int) (w : World) (h : Has w a n cap xs) (h' : Has w b0 m cap2 ns) :
    Calls Try.prog 24 #[.slice a n cap, .slice b0 m cap2] w (PostInts w (relOf xs ns)) := by
  have HL := hid h.len
  have HL' := hid h'.len
  by_cases hg : treeB xs = true
  · have HG := hid hg
    have ht := tree_of hg h.len
    have h8 := ht.le
    have HT := hid ht.nthB
    by_cases hmn : m = n
    · subst hmn
      have hbe : ((m : Int) != (m : Int)) = false := by simp
      clear hg ht
      go_enter Try.func24, Try.ntmps24
      go_wp2_with (go_at_call 35; refine (isTree_any _ _ _ _ _ h).mono ?_; rintro e w1 ⟨rfl, hb1⟩; rw [HG.out])
      have hs1 := hb1.size
      have h1 := h.below hb1 (Nat.le_refl _)
      have h1' := h'.below hb1 (Nat.le_refl _)
      have hle := h'.le
      go_loop [6] (fun i => ∃ k : Nat, k ≤ m ∧ i = .int .i64 ((k : Int) + 1) ∧ Hid (∀ v : Nat, v < k → ((v : Int) + 1) ∈ ns)) (fun i => m + 1 - (intOf i).toNat)
      case atStart => exact ⟨0, Nat.zero_le _, rfl, hid (fun v hv => by omega)⟩
      case round =>
        obtain ⟨k, hk, rfl, HV⟩ := hrel
        by_cases hlt : k < m
        · have hkk : (k : Int) + 1 ≤ (m : Int) := by omega
          by_cases hc : hasB ns ((k : Int) + 1) = true
          · have HC := hid hc
            clear hc
            go_wp2_with (go_at_call 59; refine (contains_any _ _ _ _ _ _ h1').mono ?_; rintro e w' ⟨rfl, rfl⟩; rw [HC.out])
            go_round
            case rel => exact ⟨k + 1, by omega, by go_num, hid (fun v hv => by rcases Nat.lt_succ_iff_lt_or_eq.1 hv with h2 | rfl; exact HV.out v h2; exact hasB_iff.1 HC.out)⟩
            case measure => simp [intOf]; omega
          · have HC := hid (Bool.eq_false_iff.2 hc)
            have HR : Hid (relOf xs ns = ([], false)) := hid (by
              have : namesB m ns = false := Bool.eq_false_iff.2 (fun hh => hasB_not.1 HC.out (names_all hh k hlt))
              simp only [relOf]; rw [HL.out, this]; simp)
            clear hc
            go_wp2_with (go_at_call 59; refine (contains_any _ _ _ _ _ _ h1').mono ?_; rintro e w' ⟨rfl, rfl⟩; rw [HC.out])
            go_ret2
            exact postInts_no HR.out hb1
        · obtain rfl : k = m := by omega
          have HN := hid (all_names HL'.out HV.out)
          have HR : Hid (relOf xs ns = (relL xs ns, true)) := hid (by simp only [relOf]; rw [HG.out, HL.out, HN.out]; rfl)
          obtain ⟨_, q2, _⟩ := namesB_iff.1 HN.out
          have HB : Hid (∀ i, i < k → 1 ≤ nth ns i ∧ nth ns i ≤ (k : Int)) := hid (fun i hi => q2 _ (nth_mem (by rw [HL'.out]; exact hi)))
          have hlit : Below w1.heap.size w1 (w1.alloc (.cells #[.int .i64 0] 3)) := (Below.refl _ _).alloc (Nat.le_refl _) _
          have hkk : ¬ (k : Int) + 1 ≤ (k : Int) := by omega
          clear q2
          go_wp2_with (first | (at_make; refine wpList_make_ints _ rfl _ _ rfl _ rfl rfl (by omega) ?_; intro a3 cap3 w3 hown3 hb3) | (at_builtin; refine wpList_append_ints _ rfl _ _ rfl w1.heap.size _ _ _ _ _ _ [0] ns rfl rfl (own_lit1 w1 _ 0 (Nat.le_refl _)) (h1'.below hlit (Nat.le_refl _)) (by omega) (by simp) ?_; intro a2 n2 cap2' w2 hn2 hown2' hb2'; have hb2 := hlit.trans (hb2'.mono (Nat.le_refl _)); have hown2 : Own w2 w1.heap.size a2 n2 cap2' ([0] ++ ns) := hown2'; have HN2 := hid hn2; clear hb2' hown2' hn2))
          have hs2 := hb2.size
          have hs3 := hb3.size
          have hx2 := h1.below hb2 (Nat.le_refl _)
          have hx2' := h1'.below hb2 (Nat.le_refl _)
          go_loopw [39] (fun i wr => ∃ k2 : Nat, k2 ≤ k ∧ i = .int .i64 k2 ∧ Own wr w2.heap.size a3 k cap3 (relTo xs ns k2) ∧ Below w2.heap.size w2 wr) (fun i _ => k - (intOf i).toNat)
          case atStart => exact ⟨0, by omega, rfl, by rw [relTo_start HL.out]; exact hown3, hb3⟩
          case round =>
            clear hown3 hb3
            obtain ⟨j, hj, rfl, hown, hb⟩ := hrel
            by_cases hjl : j < k
            · obtain ⟨b, off, rfl, hbb, hc⟩ := hx2.2.2.2.2 (by omega)
              have hck : wr.cell? ⟨b, off + j, none⟩ = some (.int .i64 (nth xs j)) := by rw [hb.cell (p := ⟨b, off + j, none⟩) hbb]; exact hc j hjl
              have hbd := HT.out j hjl
              obtain ⟨p, hp⟩ : ∃ p : Nat, nth xs j = (p : Int) := ⟨(nth xs j).toNat, by omega⟩
              obtain ⟨b', off', rfl, hbb', hc'⟩ := hx2'.2.2.2.2 (by omega)
              have hnk : wr.cell? ⟨b', off' + j, none⟩ = some (.int .i64 (nth ns j)) := by rw [hb.cell (p := ⟨b', off' + j, none⟩) hbb']; exact hc' j hjl
              have hbn := HB.out j hjl
              obtain ⟨q, hq⟩ : ∃ q : Nat, nth ns j = (q : Int) + 1 := ⟨(nth ns j).toNat - 1, by omega⟩
              obtain ⟨g2, rfl, hh1, hh2, hh3, hh4⟩ := hown2.opened (by have := HN2.out; omega)
              have hcp : wr.cell? ⟨g2, p, none⟩ = some (.int .i64 (nth ([0] ++ ns) p)) := by rw [hb.cell (p := ⟨g2, p, none⟩) (by simpa using hh2)]; exact hh3 p (by have := HN2.out; omega)
              have hpn2 : p < n2 := by have := HN2.out; omega
              obtain ⟨g, rfl, hg1, hg2, hg3, hg4⟩ := hown.opened (by omega)
              have hqm : q < k := by omega
              have hgq := hg3 q hqm
              have hgf := hg4 q
              have HS : Hid (relTo xs ns (j + 1) = (relTo xs ns j).set q (nth ([0] ++ ns) p)) := hid (by
                rw [relTo_called hp, hq, show ((q : Int) + 1).toNat - 1 = q by omega])
              obtain ⟨s1, s2⟩ := hown.set q (nth ([0] ++ ns) p)
              obtain ⟨y, hy⟩ : ∃ y, nth ([0] ++ ns) p = y := ⟨_, rfl⟩
              rw [hy] at hcp HS s1 s2
              rw [hp] at hck
              rw [hq] at hnk
              have hjj : (j : Int) < (k : Int) := by omega
              have hjz : (0 : Int) ≤ (j : Int) := by omega
              have hpp : (p : Int) < (n2 : Int) := by omega
              clear hc hc' hg3 hg4 hp hq hbd hbn hh3 hh4 hy
              go_wp2_with fail
              have v3 : IntKind.i64.wrap (q : Int) = (q : Int) := IntWalk.i64_in _ (by omega)
              go_still_tail 11, (by kernel_rfl)
              clear v3
              change wpList _ _ _ _ _ wr.drew
              go_wp2_with fail
              go_roundw
              case rel => exact ⟨j + 1, by omega, by go_num, by rw [HS.out]; exact s1, (hb.setCell hg1 _).drew⟩
              case measure => simp [intOf]; omega
            · obtain rfl : j = k := by omega
              have HF : Hid (relTo xs ns j = relL xs ns) := hid (by unfold relL; rw [HL.out])
              go_wp2_with fail
              go_ret2
              exact postInts HR.out (by rw [← HF.out]; exact hown.mono (by omega)) ((hb1.trans (hb2.mono hs1)).trans (hb.mono (by omega)))
    · have HR : Hid (relOf xs ns = ([], false)) := hid (by
        have : namesB n ns = false := Bool.eq_false_iff.2 (fun hh => hmn (by rw [← HL'.out]; exact (namesB_iff.1 hh).1))
        simp only [relOf]; rw [HL.out, this]; simp)
      have hbe : ((m : Int) != (n : Int)) = true := by simp; omega
      clear hg ht
      go_enter Try.func24, Try.ntmps24
      go_wp2_with (go_at_call 35; refine (isTree_any _ _ _ _ _ h).mono ?_; rintro e w1 ⟨rfl, hb1⟩; rw [HG.out])
      go_ret2
      exact postInts_no HR.out hb1
  · have HR : Hid (relOf xs ns = ([], false)) := hid (by simp [relOf, hg])
    have HG := hid (Bool.eq_false_iff.2 hg)
    clear hg
    go_enter Try.func24, Try.ntmps24
    go_wp2_with (go_at_call 35; refine (isTree_any _ _ _ _ _ h).mono ?_; rintro e w1 ⟨rfl, hb1⟩; rw [HG.out])
    go_ret2
    exact postInts_no HR.out hb1
end Go.Proofs.Ytochmifhhigfhab

/- The law that slope parking functions are counted, listed and told by ranks, walked. -/
import Derived.Test.YtfkejkkplafciadCur
import Derived.Test.YtfkejkkplafciadMathSn
import Derived.Test.YtfkejkkplafciadMathQ
import Derived.Test.YtfkejkkplafciadHelp
import Derived.Test.YtfkejkkplafciadSpecA
import Derived.Test.YtfkejkkplafciadHelp2
import Derived.Test.YtfkejkkplafciadJ
import Derived.Test.YtfkejkkplafciadDrawSl
import Derived.Test.YtfkejkkplafciadSpecSu
import Derived.Test.YtfkejkkplafciadSpecAl
import Derived.Test.YtfkejkkplafciadImplSr
import Derived.Test.YtfkejkkplafciadImplAo
namespace Go.Proofs.Ytfkejkkplafciad
open Go.RowKit

theorem HasB.below {w w' : World} {a : Option Addr} {n K : Nat} (h : HasB w a n K) (hb : Below K w w') : HasB w' a n K := by
  refine ⟨h.1, fun hx => ?_⟩
  obtain ⟨b, off, ha, hbk, hc⟩ := h.2 hx
  refine ⟨b, off, ha, hbk, fun i hi => ?_⟩
  obtain ⟨u, u0, u1, hu⟩ := hc i hi
  exact ⟨u, u0, u1, by rw [hb.cell (p := ⟨b, off + i, none⟩) hbk]; exact hu⟩

/-- An argument's slice of bytes. -/
theorem hasB_of_row {w : World} {a : Option Addr} {len cap : Nat} {zs : List Int}
    (h : (a = none ∧ len = 0 ∧ cap = 0 ∧ zs = []) ∨ ∃ x, a = some x ∧ len ≤ cap ∧ cap ≤ maxLen ∧ zs.length = cap ∧ (∀ i, i < zs.length → w.cell? (x.add i) = some (.int .u8 (zs.getD i 0))) ∧ ∀ n ∈ zs, (Lit.int .u8 n).wf = true) :
    len ≤ maxLen ∧ (len ≤ 1048576 → HasB w a len w.heap.size) := by
  rcases h with ⟨rfl, rfl, rfl, rfl⟩ | ⟨x, rfl, h1, h2, h3, h4, h5⟩
  · exact ⟨by unfold maxLen; omega, fun _ => ⟨by omega, by omega⟩⟩
  · refine ⟨by omega, fun hl => ⟨by omega, fun hx => ?_⟩⟩
    obtain ⟨b, off, spot⟩ := x
    have hc := h4 0 (by omega)
    have hspot : spot = none := by simpa [Addr.add] using World.cell?_spot hc
    subst hspot
    refine ⟨b, off, rfl, by have := World.block_lt_of_cell? w _ hc; simpa [Addr.add] using this, fun i hi => ?_⟩
    have := h4 i (by omega)
    have e : (⟨b, off, none⟩ : Addr).add i = ⟨b, off + i, none⟩ := by unfold Addr.add; split <;> simp_all
    rw [e] at this
    have hm : zs.getD i 0 ∈ zs := by simp [show i < zs.length by omega]
    have hw := h5 _ hm
    generalize zs.getD i 0 = u at *
    have hw' : (0 : Int) ≤ u ∧ u ≤ 255 := by simpa [Lit.wf, IntKind.min, IntKind.max, IntKind.signed, IntKind.bits] using hw
    exact ⟨u, hw'.1, hw'.2, this⟩

/-- The law's answer. -/
def Holds (w : World) (e : Ending) (w' : World) : Prop := e = .returned (.bool true) ∧ Below w.heap.size w w'
end Go.Proofs.Ytfkejkkplafciad

namespace Go.Proofs.Ytfkejkkplafciad
open Go.RowKit

theorem nextU_less {bs xs ys : List Int} : ∀ c, c ≤ xs.length → nextU bs xs c = (ys, true) → lexLess xs ys = true ∧ ys.length = xs.length
  | 0, _, h => by simp [nextU] at h
  | c + 1, hc, h => by
    simp only [nextU] at h
    split at h
    · obtain rfl := (Prod.mk.inj h).1
      have hl : (cand xs c).length = xs.length := length_cand (by omega)
      refine ⟨?_, hl⟩
      have hlt : (xs.take c).length = c := by simp; omega
      have e1 : ∀ i, i < c → nth xs i = nth (cand xs c) i := by
        intro i hi
        unfold cand nth
        rw [List.getD_eq_getElem?_getD, List.getD_eq_getElem?_getD, List.getElem?_append_left (by omega), List.getElem?_take_of_lt hi]
      have e2 : nth (cand xs c) c = nth xs c + 1 := by
        unfold cand
        conv => lhs; unfold nth
        rw [List.getD_eq_getElem?_getD, List.getElem?_append_right (by omega), hlt, Nat.sub_self]
        simp [nth]
      rw [lexLess_at c xs _ (by omega) hl.symm e1 (by omega), e2]
      exact decide_eq_true (by omega)
    · exact nextU_less c (by omega) h
/-- What is listed of a slope. -/
theorem sl_all {n a k : Nat} (hs : slN n a = true) (hk : k < (allB' (bnds n a)).length) :
    ((allB' (bnds n a)).getD k []).length = n ∧ isSlOf ((allB' (bnds n a)).getD k []) a = (true, true) ∧ rankSlOf ((allB' (bnds n a)).getD k []) a = ((k : Int), true) ∧
      (k + 1 < (allB' (bnds n a)).length → lexLess ((allB' (bnds n a)).getD k []) ((allB' (bnds n a)).getD (k + 1) []) = true) := by
  obtain ⟨hc, _, _, h⟩ := allB_chain (bnds_bnd n a)
  obtain ⟨e, r, u, l⟩ := h k hk
  rw [length_bnds] at l
  have hsb : slB (n : Int) (a : Int) = true := by rw [slB_nat, hs]
  refine ⟨l, ?_, ?_, fun hk2 => ?_⟩
  · unfold isSlOf
    rw [l, hsb, Int.toNat_natCast, u]
    rfl
  · unfold rankSlOf goodSl
    rw [l, hsb, Int.toNat_natCast, u, e, r]
    rfl
  · have := hc.2.1 k hk2
    exact (nextU_less _ (Nat.le_refl _) this).1
theorem sl_len {n a : Nat} (hs : slN n a = true) : (allB' (bnds n a)).length = a ^ (n - 1) := by
  obtain ⟨⟨h1, h2⟩, ⟨h3, h4⟩, _⟩ := slN_iff.1 hs
  rw [(allB_chain (bnds_bnd n a)).2.2.1, cnt_slope n (by omega) a (by omega) hs]
theorem sl_cnt {n a : Nat} (hs : slN n a = true) : cntSlOf (n : Int) (a : Int) = (((a ^ (n - 1) : Nat) : Int), true) := by
  unfold cntSlOf
  rw [slB_nat, hs]
  simp only [if_true, Int.toNat_natCast]
theorem sl_at {n a r : Nat} (hs : slN n a = true) (hr : r < a ^ (n - 1)) : slAtOf (n : Int) (a : Int) (r : Int) = ((allB' (bnds n a)).getD r [], true) := by
  obtain ⟨_, _, _, h⟩ := allB_chain (bnds_bnd n a)
  obtain ⟨e, _⟩ := h r (by rw [sl_len hs]; exact hr)
  rw [e]
  unfold slAtOf
  have h2 : inB (r : Int) 0 (((a ^ (n - 1) : Nat) : Int) - 1) = true := inB_iff.2 ⟨by omega, by omega⟩
  simp only [Int.toNat_natCast]
  rw [slB_nat, hs, h2]
  rfl
/-- With a rank. -/
theorem sl_facts {n a r : Nat} (hs : slN n a = true) (hr : r < a ^ (n - 1)) : ∃ xs, slAtOf (n : Int) (a : Int) (r : Int) = (xs, true) ∧ xs.length = n ∧ rankSlOf xs a = ((r : Int), true) ∧
    (r + 1 < a ^ (n - 1) → ∃ ys, slAtOf (n : Int) (a : Int) ((r : Int) + 1) = (ys, true) ∧ ys.length = n ∧ lexLess xs ys = true) := by
  obtain ⟨q1, q2, q3, q4⟩ := sl_all hs (k := r) (by rw [sl_len hs]; exact hr)
  refine ⟨_, sl_at hs hr, q1, q3, fun hlt => ?_⟩
  obtain ⟨p1, _⟩ := sl_all hs (k := r + 1) (by rw [sl_len hs]; exact hlt)
  exact ⟨_, by have := sl_at hs hlt; simpa using this, p1, q4 (by rw [sl_len hs]; exact hlt)⟩
theorem sl_at_no {n a : Nat} {r : Int} (h : ¬ (0 ≤ r ∧ r < ((a ^ (n - 1) : Nat) : Int))) : slAtOf (n : Int) (a : Int) r = ([], false) := by
  have h2 : inB r 0 (((a ^ (n - 1) : Nat) : Int) - 1) = false := by rw [inB_not]; omega
  unfold slAtOf
  simp only [Int.toNat_natCast]
  rw [h2]
  simp
theorem sl_at_bad {n a r : Int} (h : slB n a = false) : slAtOf n a r = ([], false) := by simp [slAtOf, h]
theorem sl_cnt_bad {n a : Int} (h : slB n a = false) : cntSlOf n a = (0, false) := by simp [cntSlOf, h]
theorem sl_all_yes {n a : Nat} (hs : slN n a = true) (h : a ^ (n - 1) ≤ 700) : allSlOf (n : Int) (a : Int) = (allB' (bnds n a), true) := by
  unfold allSlOf
  simp only [Int.toNat_natCast]
  rw [slB_nat, hs]
  simp [h]
theorem sl_all_no {n a : Int} (h : ¬ (slB n a = true ∧ a.toNat ^ (n.toNat - 1) ≤ 700)) : allSlOf n a = ([], false) := by
  unfold allSlOf
  rw [if_neg]
  simpa using h
end Go.Proofs.Ytfkejkkplafciad

namespace Go.Proofs.Ytfkejkkplafciad
open Go.RowKit

set_option maxHeartbeats 400000 in
theorem wSame_any (a b : Option Addr) (n m cap cap' : Nat) (xs ys : List Int) (w : World) (h : Has w a n cap xs) (h' : Has w b m cap' ys) :
    Calls Try.prog 13 #[.slice a n cap, .slice b m cap'] w fun e w' => e = .returned (.bool (same xs ys)) ∧ Quiet w w' := by
  obtain ⟨h0, h1, h2, h3, h4⟩ := h
  obtain ⟨k0, k1, k2, k3, k4⟩ := h'
  by_cases hnm : n = m
  · have hb : ((n : Int) != (m : Int)) = false := by simp [hnm]
    subst hnm
    go_enter Try.func13, Try.ntmps13
    go_wp2_with fail
    go_loopw [13] (fun i wr => ∃ k : Nat, k ≤ n ∧ i = .int .i64 k ∧ FromTo xs ys k ∧ Quiet w wr) (fun i _ => n - (intOf i).toNat)
    case atStart => exact ⟨0, Nat.zero_le _, rfl, fun i hi => by omega, ⟨0, rfl⟩⟩
    case round =>
      obtain ⟨k, hk, rfl, hft, q, hq⟩ := hrel
      subst hq
      by_cases hlt : k < n
      · obtain ⟨b1, off1, rfl, hb1, hc1⟩ := h4 (by omega)
        obtain ⟨b2, off2, rfl, hb2, hc2⟩ := k4 (by omega)
        have hck := hc1 k hlt
        have hdk := hc2 k hlt
        have hkk : (k : Int) < (n : Int) := by omega
        have hkz : (0 : Int) ≤ (k : Int) := by omega
        clear hc1 hc2 h4 k4
        by_cases he : nth xs k = nth ys k
        · have hbe : (nth xs k != nth ys k) = false := by simp [he]
          have HE := hid he
          clear he
          go_wp2_with fail
          go_quiet (fail)
          go_wp2_with fail
          go_roundw
          case rel => exact ⟨k + 1, by omega, by go_num, fun i hi => by rcases Nat.lt_succ_iff_lt_or_eq.1 hi with h | rfl; exact hft i h; exact HE.out.symm, ⟨_, rfl⟩⟩
          case measure => simp [intOf]; omega
        · have hbe : (nth xs k != nth ys k) = true := by simp [he]
          have HE := hid he
          clear he
          go_wp2_with fail
          go_quiet (fail)
          go_wp2_with fail
          go_ret
          exact ⟨ret_bool (same_no HE.out).symm, (Quiet.more ⟨_, rfl⟩ _)⟩
      · obtain rfl : k = n := by omega
        go_wp2_with fail
        go_ret
        exact ⟨ret_bool (same_yes (by omega) (by rw [h0]; exact hft)).symm, ⟨_, rfl⟩⟩
  · have hb : ((n : Int) != (m : Int)) = true := by simp; omega
    go_enter Try.func13, Try.ntmps13
    go_wp2_with fail
    go_ret
    exact ⟨ret_bool (show false = same xs ys from by unfold same; symm; rw [decide_eq_false_iff_not]; rintro rfl; omega), ⟨0, rfl⟩⟩

set_option maxHeartbeats 400000 in
theorem wHas_any (a : Option Addr) (n cap : Nat) (xs : List Int) (x : Int) (w : World) (h : Has w a n cap xs) :
    Calls Try.prog 43 #[.slice a n cap, .int .i64 x] w fun e w' => e = .returned (.bool (hasB xs x)) ∧ w = w' := by
  obtain ⟨h0, h1, h2, h3, h4⟩ := h
  go_enter Try.func43, Try.ntmps43
  go_wp2_with fail
  go_loop [9] (fun i => ∃ k : Nat, k ≤ n ∧ i = .int .i64 k ∧ hasB (xs.take k) x = false) (fun i => n - (intOf i).toNat)
  case atStart => exact ⟨0, Nat.zero_le _, rfl, by simp [hasB]⟩
  case round =>
    obtain ⟨k, hk, rfl, hrel⟩ := hrel
    have HR := hid hrel
    clear hrel
    by_cases hlt : k < n
    · obtain ⟨b, off, rfl, hb, hc⟩ := h4 (by omega)
      have hck := hc k hlt
      clear hc h4
      by_cases he : nth xs k = x
      · have hbe : (nth xs k == x) = true := by simp [he]
        have HE := hid he
        clear he
        go_wp2_with fail
        go_ret
        exact ⟨ret_bool (hasB_yes (by omega) HE.out).symm, rfl⟩
      · have hbe : (nth xs k == x) = false := by simp [he]
        have HE := hid he
        clear he
        go_wp2_with fail
        go_round
        case rel => exact ⟨k + 1, by omega, by go_num, hasB_succ (by omega) HR.out HE.out⟩
        case measure => simp [intOf]; omega
    · go_wp2_with fail
      go_ret
      exact ⟨ret_bool (by rw [← HR.out, List.take_of_length_le (by omega)]), rfl⟩

end Go.Proofs.Ytfkejkkplafciad

namespace Go.Proofs.Ytfkejkkplafciad
open Go.RowKit

set_option maxHeartbeats 800000 in
theorem wRows_any (a b : Option Addr) (n m cap cap' : Nat) (rs ss : List Rw) (w : World) (h : HasR w a n cap rs) (h' : HasR w b m cap' ss) :
    Calls Try.prog 18 #[.slice a n cap, .slice b m cap'] w fun e w' => e = .returned (.bool (sameR rs ss)) ∧ Quiet w w' := by
  obtain ⟨h0, h1, h2, h3, h4, h5⟩ := h
  obtain ⟨k0, k1, k2, k3, k4, k5⟩ := h'
  by_cases hnm : n = m
  · have hb : ((n : Int) != (m : Int)) = false := by simp [hnm]
    subst hnm
    have HL := hid h0
    have HL' := hid k0
    have H5 := hid h5
    have K5 := hid k5
    clear h0 k0 h5 k5
    go_enter Try.func18, Try.ntmps18
    go_wp2_with fail
    go_loopw [13] (fun i wr => ∃ k : Nat, k ≤ n ∧ i = .int .i64 k ∧ Hid (∀ j, j < k → same (nthR rs j).xs (nthR ss j).xs = true) ∧ Quiet w wr) (fun i _ => n - (intOf i).toNat)
    case atStart => exact ⟨0, Nat.zero_le _, rfl, hid (fun i hi => by omega), ⟨0, rfl⟩⟩
    case round =>
      obtain ⟨k, hk, rfl, HF, HQ⟩ := hrel
      by_cases hlt : k < n
      · obtain ⟨b1, off1, rfl, hb1, hc1⟩ := h4 (by omega)
        obtain ⟨b2, off2, rfl, hb2, hc2⟩ := k4 (by omega)
        have hck : wr.cell? ⟨b1, off1 + k, none⟩ = some (nthR rs k).v := by obtain ⟨q, hq⟩ := HQ; rw [hq]; exact hc1 k hlt
        have hdk : wr.cell? ⟨b2, off2 + k, none⟩ = some (nthR ss k).v := by obtain ⟨q, hq⟩ := HQ; rw [hq]; exact hc2 k hlt
        have hkk : (k : Int) < (n : Int) := by omega
        have hkz : (0 : Int) ≤ (k : Int) := by omega
        have cq : ∀ j, Calls Try.prog 13 #[(nthR rs k).v, (nthR ss k).v] (wr.drewN j) fun e w' => e = .returned (.bool (same (nthR rs k).xs (nthR ss k).xs)) ∧ ∃ m, w' = (wr.drewN j).drewN m := fun j =>
          wSame_any _ _ _ _ _ _ _ _ _ (by obtain ⟨q, hq⟩ := HQ; rw [hq]; exact H5.out k hlt) (by obtain ⟨q, hq⟩ := HQ; rw [hq]; exact K5.out k hlt)
        clear hc1 hc2 h4 k4
        have HN := hid (sameR_no (rs := rs) (ss := ss) (k := k) (by rw [HL.out]; omega) (by rw [HL'.out]; omega))
        have HF2 := hid (fun (hh : same (nthR rs k).xs (nthR ss k).xs = true) (j : Nat) (hj : j < k + 1) => (show same (nthR rs j).xs (nthR ss j).xs = true from by rcases Nat.lt_succ_iff_lt_or_eq.1 hj with h1 | rfl; exact HF.out j h1; exact hh))
        generalize nthR rs k = rk at *
        generalize nthR ss k = sk at *
        by_cases he : same rk.xs sk.xs = true
        · have HE := hid he
          rw [he] at cq
          have CQ := hid cq
          clear he cq
          go_wp2_with fail
          go_quiet ((go_at_call 13; exact Calls.quiet_of (CQ.out _)))
          go_wp2_with fail
          go_roundw
          case rel => exact ⟨k + 1, by omega, by go_num, hid (HF2.out HE.out), Quiet.more HQ _⟩
          case measure => simp [intOf]; omega
        · have he' := Bool.eq_false_iff.2 he
          have HE := hid he'
          rw [he'] at cq
          have CQ := hid cq
          clear he he' cq
          go_wp2_with fail
          go_quiet ((go_at_call 13; exact Calls.quiet_of (CQ.out _)))
          go_wp2_with fail
          go_ret
          exact ⟨ret_bool (HN.out HE.out).symm, Quiet.more HQ _⟩
      · obtain rfl : k = n := by omega
        go_wp2_with fail
        go_ret
        exact ⟨ret_bool (sameR_yes (by rw [HL.out, HL'.out]) (by rw [HL.out]; exact HF.out)).symm, HQ⟩
  · have hb : ((n : Int) != (m : Int)) = true := by simp; omega
    have HR : Hid (sameR rs ss = false) := hid (by
      unfold sameR; rw [decide_eq_false_iff_not]
      intro e
      have : (numsOf rs).length = (numsOf ss).length := by rw [e]
      simp [numsOf] at this
      omega)
    go_enter Try.func18, Try.ntmps18
    go_wp2_with fail
    go_ret
    exact ⟨ret_bool HR.out.symm, ⟨0, rfl⟩⟩


set_option maxHeartbeats 800000 in
theorem wLess_any (a b : Option Addr) (n cap cap' : Nat) (xs ys : List Int) (w : World) (h : Has w a n cap xs) (h' : Has w b n cap' ys) :
    Calls Try.prog 20 #[.slice a n cap, .slice b n cap'] w fun e w' => e = .returned (.bool (lexLess xs ys)) ∧ Quiet w w' := by
  obtain ⟨h0, h1, h2, h3, h4⟩ := h
  obtain ⟨k0, k1, k2, k3, k4⟩ := h'
  have HL := hid h0
  have HL' := hid k0
  clear h0 k0
  go_enter Try.func20, Try.ntmps20
  go_wp2_with fail
  go_loopw [8] (fun i wr => ∃ k : Nat, k ≤ n ∧ i = .int .i64 k ∧ Hid (∀ i, i < k → nth xs i = nth ys i) ∧ Quiet w wr) (fun i _ => n - (intOf i).toNat)
  case atStart => exact ⟨0, Nat.zero_le _, rfl, hid (fun i hi => by omega), ⟨0, rfl⟩⟩
  case round =>
    obtain ⟨k, hk, rfl, HF, q, hq⟩ := hrel
    subst hq
    by_cases hlt : k < n
    · obtain ⟨b1, off1, rfl, hb1, hc1⟩ := h4 (by omega)
      obtain ⟨b2, off2, rfl, hb2, hc2⟩ := k4 (by omega)
      have hck := hc1 k hlt
      have hdk := hc2 k hlt
      have hkk : (k : Int) < (n : Int) := by omega
      have hkz : (0 : Int) ≤ (k : Int) := by omega
      have HX := hid (fun (hne : nth xs k ≠ nth ys k) => lexLess_at k xs ys (by rw [HL.out]; exact hlt) (by rw [HL.out, HL'.out]) HF.out hne)
      clear hc1 hc2 h4 k4
      by_cases he : nth xs k = nth ys k
      · have hbe : (nth xs k != nth ys k) = false := by simp [he]
        have HE := hid he
        clear he
        go_wp2_with fail
        go_quiet (fail)
        go_wp2_with fail
        go_roundw
        case rel => exact ⟨k + 1, by omega, by go_num, hid (fun i hi => by rcases Nat.lt_succ_iff_lt_or_eq.1 hi with h | rfl; exact HF.out i h; exact HE.out), ⟨_, rfl⟩⟩
        case measure => simp [intOf]; omega
      · have hbe : (nth xs k != nth ys k) = true := by simp [he]
        have HR := hid (HX.out he)
        clear he HX
        go_wp2_with fail
        go_quiet (fail)
        go_wp2_with fail
        go_quiet (fail)
        go_wp2_with fail
        go_ret
        exact ⟨ret_bool HR.out.symm, (Quiet.more (Quiet.more ⟨_, rfl⟩ _) _)⟩
    · obtain rfl : k = n := by omega
      have HR : Hid (lexLess xs ys = false) := hid (by
        rw [ext_nth (xs := xs) (ys := ys) (by rw [HL.out, HL'.out]) (by rw [HL.out]; exact HF.out)]
        exact lexLess_same _)
      go_wp2_with fail
      go_ret
      exact ⟨ret_bool HR.out.symm, ⟨_, rfl⟩⟩

end Go.Proofs.Ytfkejkkplafciad

namespace Go.Proofs.Ytfkejkkplafciad
open Go.RowKit

theorem slr_at {rs : List Rw} {m d q k : Nat} (h0 : rs.length = q) (hn : numsOf rs = allB' (bnds m d)) (hk : k < q) : (nthR rs k).xs = (allB' (bnds m d)).getD k [] ∧ (allB' (bnds m d)).length = q := by
  have hl : (numsOf rs).length = q := by simp [numsOf, h0]
  have h1 : (numsOf rs)[k]? = some (nthR rs k).xs := map_nthR Rw.xs (by omega)
  rw [← hn]
  refine ⟨?_, hl⟩
  rw [List.getD_eq_getElem?_getD, h1]
  rfl
theorem slr_row {w : World} {b off q cap m d : Nat} {rs : List Rw} (R : HasR w (some ⟨b, off, none⟩) q cap rs) (hs : slN m d = true) (hn : numsOf rs = allB' (bnds m d)) {k : Nat} (hk : k < q) :
    ∃ ak ck, w.cell? ⟨b, off + k, none⟩ = some (.slice ak m ck) ∧ Has w ak m ck (nthR rs k).xs ∧ isSlOf (nthR rs k).xs d = (true, true) ∧ rankSlOf (nthR rs k).xs d = ((k : Int), true) := by
  obtain ⟨r0, r1, r2, r3, r4, r5⟩ := R
  obtain ⟨b', off', e, _, hc⟩ := r4 (by omega)
  simp at e
  obtain ⟨rfl, rfl⟩ := e
  have h3 := hc k hk
  have h4 := r5 k hk
  unfold Rw.v at h3
  obtain ⟨e1, e2⟩ := slr_at r0 hn hk
  obtain ⟨f1, f2, f3, _⟩ := sl_all hs (k := k) (by omega)
  rw [← e1] at f1 f2 f3
  rw [f1] at h3 h4
  exact ⟨_, _, h3, h4, f2, f3⟩
theorem slr_less {rs : List Rw} {m d q k : Nat} (h0 : rs.length = q) (hs : slN m d = true) (hn : numsOf rs = allB' (bnds m d)) (hk : k + 1 < q) : lexLess (nthR rs k).xs (nthR rs (k + 1)).xs = true := by
  obtain ⟨e1, e2⟩ := slr_at h0 hn (k := k) (by omega)
  obtain ⟨e3, _⟩ := slr_at h0 hn (k := k + 1) (by omega)
  rw [e1, e3]
  exact (sl_all hs (k := k) (by omega)).2.2.2 (by omega)
theorem slr_num {rs : List Rw} {m d q : Nat} (h0 : rs.length = q) (hs : slN m d = true) (hn : numsOf rs = allB' (bnds m d)) : cntSlOf (m : Int) (d : Int) = ((q : Int), true) ∧ 0 < q := by
  have hl : (numsOf rs).length = q := by simp [numsOf, h0]
  rw [hn] at hl
  have h1 := sl_len hs
  refine ⟨by rw [sl_cnt hs, ← h1, hl], ?_⟩
  have := (pow_sl hs).1
  omega

set_option maxRecDepth 100000 in
set_option maxHeartbeats 16000000 in
theorem slopes_walk (a b : Option Addr) (n m cap cap' : Nat) (w : World) (hn : n ≤ maxLen) (h : n ≤ 1048576 → HasB w a n w.heap.size) (h' : m ≤ 1048576 → HasB w b m w.heap.size) :
    Calls Try.prog 3 #[.slice a n cap, .slice b m cap'] w (Holds w) := by
  have H1 := hid h
  have H2 := hid h'
  have HN := hid hn
  clear h h' hn
  have hB : Below w.heap.size w w := Below.refl _ _
  go_enter Try.func3, Try.ntmps3
  go_wp2_with fail
  refine (big_any _ _ _ _ _ _ _ (by have := HN.out; unfold maxLen at this; omega)).mono ?_
  rintro e _ ⟨r, rfl, hr, rfl⟩
  have HR := hid hr
  clear hr
  cases r with
  | true =>
    go_wp2_with fail
    go_ret
    exact ⟨rfl, hB⟩
  | false =>
    have hnm := HR.out rfl
    clear HR
    have HA := hid (H1.out (by omega))
    have HM := hid (H2.out (by omega))
    clear H1 H2 HN
    go_wp2_with fail
    refine (drawSlopeAt_any _ _ _ _ HA.out).mono ?_
    rintro e v1 ⟨nn, aa, rr, rfl, n0, n1, b0, b1, r0, r1, st⟩
    replace hB := hB.trans (st.mono hB.size)
    clear st
    by_cases hN : slB nn aa = true
    · skip
      obtain ⟨k, s, rfl, rfl, hs⟩ := slB_iff.1 hN
      have HIS : Hid (isSlopeOf (k : Int) (s : Int) = true) := hid hN
      clear hN n0 n1 b0 b1
      obtain ⟨c, hc⟩ : ∃ c, s ^ (k - 1) = c := ⟨_, rfl⟩
      obtain ⟨c1, c2⟩ := pow_sl hs
      rw [hc] at c1 c2
      have HCT : Hid (cntSlOf (k : Int) (s : Int) = ((c : Int), true)) := hid (by rw [sl_cnt hs, hc])
      have hne := neq_self_int (c : Int)
      have HCC := hid hc
      by_cases hr : 0 ≤ rr ∧ rr < (c : Int)
      · skip
        obtain ⟨q, rfl⟩ : ∃ q : Nat, rr = (q : Int) := ⟨rr.toNat, by omega⟩
        have hqc : q < c := by omega
        obtain ⟨xs, f1, f2, f3, f4⟩ := sl_facts (n := k) (a := s) (r := q) hs (by omega)
        rw [hc] at f4
        have HSS := hid hs
        clear hc hs r0 r1
        have HAT := hid f1
        have HXL := hid f2
        have HRK := hid f3
        have H7 := hid f4
        clear f1 f2 f3 f4
        have g1 : decide ((0 : Int) ≤ (q : Int)) = true := by simp
        have g2 : decide ((q : Int) < (c : Int)) = true := by simpa using hqc
        go_wp2_with fail
        refine (implSlAt_any _ _ _ _).mono ?_
        rw [HAT.out]
        rintro e v2 ⟨a_l, n_l, c_l, rfl, o_l, st⟩
        replace hB := hB.trans (st.mono hB.size)
        clear st
        go_wp2_with fail
        refine (specSlAt_any _ _ _ _).mono ?_
        rw [HAT.out]
        rintro e v3 ⟨a_r, n_r, c_r, rfl, o_r, st⟩
        replace o_l := o_l.below st (Nat.le_refl _)
        replace hB := hB.trans (st.mono hB.size)
        clear st
        go_wp2_with fail
        refine (implCntSl_any _ _ _).mono ?_
        rw [HCT.out]
        rintro e v4 ⟨rfl, st⟩
        replace o_l := o_l.below st (Nat.le_refl _)
        replace o_r := o_r.below st (Nat.le_refl _)
        replace hB := hB.trans (st.mono hB.size)
        clear st
        go_wp2_with fail
        refine (specCntSl_any _ _ _).mono ?_
        rw [HCT.out]
        rintro e v5 ⟨rfl, st⟩
        replace o_l := o_l.below st (Nat.le_refl _)
        replace o_r := o_r.below st (Nat.le_refl _)
        replace hB := hB.trans (st.mono hB.size)
        clear st
        go_wp2_with fail
        refine (wSame_any _ _ _ _ _ _ _ _ _ o_l.has o_r.has).mono ?_
        rintro e v6 ⟨rfl, q⟩
        have st : Below v5.heap.size v5 v6 := q.below _
        replace o_l := o_l.below st (Nat.le_refl _)
        replace o_r := o_r.below st (Nat.le_refl _)
        replace hB := hB.trans (st.mono hB.size)
        clear st
        clear q
        rw [same_self]
        clear o_r
        go_wp2_with fail
        refine (implIsSlope_any _ _ _).mono ?_
        rw [HIS.out]
        rintro e v7 ⟨rfl, st⟩
        replace o_l := o_l.below st (Nat.le_refl _)
        replace hB := hB.trans (st.mono hB.size)
        clear st
        go_wp2_with fail
        refine (drawAllSlope_any b m cap' _ (HM.out.grow hB (Nat.le_refl _))).mono ?_
        rintro e v8 ⟨mm, ww, rfl, m0, m1, q0, q1, st⟩
        replace o_l := o_l.below st (Nat.le_refl _)
        replace hB := hB.trans (st.mono hB.size)
        clear st
        by_cases hM : slB mm ww = true ∧ ww.toNat ^ (mm.toNat - 1) ≤ 700
        · skip
          obtain ⟨j, d, rfl, rfl, hsj⟩ := slB_iff.1 hM.1
          have HSJ := hid hsj
          have HAL : Hid (allSlOf (j : Int) (d : Int) = (allB' (bnds j d), true)) := hid (sl_all_yes hsj (by simpa using hM.2))
          clear hM hsj m0 m1 q0 q1
          go_wp2_with fail
          refine (implAllSl_any _ _ _).mono ?_
          rw [HAL.out]
          rintro e v9 ⟨a_g, n_g, c_g, rs, rfl, R_g, hng, st⟩
          replace o_l := o_l.below st (Nat.le_refl _)
          replace hB := hB.trans (st.mono hB.size)
          clear st
          go_wp2_with fail
          refine (specAllSl_any _ _ _).mono ?_
          rw [HAL.out]
          rintro e v10 ⟨a_s, n_s, c_s, ss, rfl, R_s, hns, st⟩
          replace o_l := o_l.below st (Nat.le_refl _)
          replace R_g := R_g.below st (Nat.le_refl _)
          replace hB := hB.trans (st.mono hB.size)
          clear st
          have HRS : Hid (sameR rs ss = true) := hid (sameR_self' (hng.trans hns.symm))
          have HNG := hid hng
          clear hng hns
          go_wp2_with fail
          refine (wRows_any _ _ _ _ _ _ _ _ _ R_g.has R_s.has).mono ?_
          rintro e v11 ⟨rfl, q⟩
          have st : Below v10.heap.size v10 v11 := q.below _
          replace o_l := o_l.below st (Nat.le_refl _)
          replace R_g := R_g.below st (Nat.le_refl _)
          replace R_s := R_s.below st (Nat.le_refl _)
          replace hB := hB.trans (st.mono hB.size)
          clear st
          clear q
          rw [HRS.out]
          clear HRS R_s
          have hgl := R_g.len
          obtain ⟨s1, s2⟩ := slr_num hgl HSJ.out HNG.out
          obtain ⟨mg, hmg⟩ : ∃ mg, n_g = mg + 1 := ⟨n_g - 1, by omega⟩
          subst hmg
          have HC := hid s1
          have HGL := hid hgl
          have hne0 := neq_self_int ((mg : Int) + 1)
          clear s1 s2 hgl
          go_wp2_with fail
          refine (implCntSl_any _ _ _).mono ?_
          rw [HC.out]
          rintro e v12 ⟨rfl, st⟩
          replace o_l := o_l.below st (Nat.le_refl _)
          replace R_g := R_g.below st (Nat.le_refl _)
          replace hB := hB.trans (st.mono hB.size)
          clear st
          have hgl2 : mg + 1 ≤ 2097152 := R_g.has.2.2.2.1
          obtain ⟨bg, offg, rfl, hbg, -⟩ := R_g.has.2.2.2.2.1 (by omega)
          go_wp2_with fail
          go_loopw [153] (fun i wr => ∃ j : Nat, j ≤ mg + 1 ∧ i = .int .i64 j ∧ Below v12.heap.size v12 wr) (fun i _ => mg + 1 - (intOf i).toNat)
          case atStart => exact ⟨0, by omega, rfl, Below.refl _ _⟩
          case round =>
            obtain ⟨wo, rfl⟩ : ∃ wo : World, wo = wr := ⟨_, rfl⟩
            obtain ⟨i, hj, rfl, st⟩ := hrel
            have hV := st
            replace o_l := o_l.below st (Nat.le_refl _)
            replace R_g := R_g.below st (Nat.le_refl _)
            replace hB := hB.trans (st.mono hB.size)
            clear st
            by_cases hlt : i < mg + 1
            · skip
              obtain ⟨ak, ck, hck, H_k, f1, -⟩ := slr_row R_g.has HSJ.out HNG.out (k := i) (by omega)
              have HP := hid f1
              clear f1
              by_cases hj0 : i = 0
              · skip
                subst hj0
                rw [Nat.add_zero] at hck
                go_wp2_with fail
                refine (implIsSl_any _ _ _ _ _ _ H_k).mono ?_
                rw [HP.out]
                rintro e v13 ⟨rfl, st⟩
                replace o_l := o_l.below st (Nat.le_refl _)
                replace R_g := R_g.below st (Nat.le_refl _)
                replace H_k := H_k.below st (Nat.le_refl _)
                replace hB := hB.trans (st.mono hB.size)
                replace hV := hV.trans (st.mono hV.size)
                clear st
                clear hck
                go_wp2_with fail
                go_roundw
                case rel => exact ⟨1, by omega, by go_num, hV⟩
                case measure => simp [intOf] <;> omega
              · skip
                obtain ⟨x, rfl⟩ : ∃ x, i = x + 1 := ⟨i - 1, by omega⟩
                go_wp2_with fail
                refine (implIsSl_any _ _ _ _ _ _ H_k).mono ?_
                rw [HP.out]
                rintro e v13 ⟨rfl, st⟩
                replace o_l := o_l.below st (Nat.le_refl _)
                replace R_g := R_g.below st (Nat.le_refl _)
                replace H_k := H_k.below st (Nat.le_refl _)
                replace hB := hB.trans (st.mono hB.size)
                replace hV := hV.trans (st.mono hV.size)
                clear st
                clear hck
                obtain ⟨aj, cj, hcj, H_j, -⟩ := slr_row R_g.has HSJ.out HNG.out (k := x) (by omega)
                have HLS := hid (slr_less HGL.out HSJ.out HNG.out (k := x) (by omega))
                go_wp2_with fail
                refine (wLess_any _ _ _ _ _ _ _ _ H_j H_k).mono ?_
                rintro e v14 ⟨rfl, q⟩
                have st : Below v13.heap.size v13 v14 := q.below _
                replace o_l := o_l.below st (Nat.le_refl _)
                replace R_g := R_g.below st (Nat.le_refl _)
                replace H_k := H_k.below st (Nat.le_refl _)
                replace H_j := H_j.below st (Nat.le_refl _)
                replace hB := hB.trans (st.mono hB.size)
                replace hV := hV.trans (st.mono hV.size)
                clear st
                clear q hcj
                rw [HLS.out]
                go_wp2_with fail
                go_roundw
                case rel => exact ⟨x + 2, by omega, by go_num, hV⟩
                case measure => simp [intOf] <;> omega
            · skip
              obtain rfl : i = mg + 1 := by omega
              obtain ⟨z, hz⟩ : ∃ z : Int, (n : Int) + (m : Int) = z := ⟨_, rfl⟩
              have z0 : 0 ≤ z := by omega
              have hwz : IntKind.i64.wrap ((n : Int) + (m : Int)) = z := by rw [IntKind.wrap_i64]; omega
              clear hz
              have hmz : ¬ (mg : Int) + 1 = 0 := by omega
              have hi0 : 0 ≤ z % ((mg : Int) + 1) := Int.emod_nonneg _ hmz
              have hi1 : z % ((mg : Int) + 1) < (mg : Int) + 1 := Int.emod_lt_of_pos z (show 0 < (mg : Int) + 1 by omega)
              obtain ⟨ai, ci, hci, H_i, -, hri⟩ := slr_row R_g.has HSJ.out HNG.out (k := (z % ((mg : Int) + 1)).toNat) (by omega)
              rw [Int.toNat_of_nonneg hi0] at hri
              have HRI := hid hri
              have hse := neq_self_int (z % ((mg : Int) + 1))
              clear hri
              go_wp2_with fail
              refine (implRankSl_any _ _ _ _ _ _ H_i).mono ?_
              rw [HRI.out]
              rintro e v13 ⟨rfl, st⟩
              replace o_l := o_l.below st (Nat.le_refl _)
              replace R_g := R_g.below st (Nat.le_refl _)
              replace H_i := H_i.below st (Nat.le_refl _)
              replace hB := hB.trans (st.mono hB.size)
              replace hV := hV.trans (st.mono hV.size)
              clear st
              clear hci R_g
              clear H_i
              by_cases hlast : q + 1 < c
              · skip
                obtain ⟨ys, f1, f2, f3⟩ := H7.out hlast
                have HAN := hid f1
                have HYL := hid f2
                have HLS2 := hid f3
                have g3 : decide ((q : Int) + 1 < (c : Int)) = true := by simp; omega
                clear f1 f2 f3 H7
                have hqq : ((q : Int) == (q : Int)) = true := by simp
                go_wp2_with fail
                refine (implRankSl_any _ _ _ _ _ _ o_l.has).mono ?_
                rw [HRK.out]
                rintro e v14 ⟨rfl, st⟩
                replace o_l := o_l.below st (Nat.le_refl _)
                replace hB := hB.trans (st.mono hB.size)
                replace hV := hV.trans (st.mono hV.size)
                clear st
                go_wp2_with fail
                refine (implSlAt_any _ _ _ _).mono ?_
                rw [HAN.out]
                rintro e v15 ⟨a_t, n_t, c_t, rfl, o_t, st⟩
                replace o_l := o_l.below st (Nat.le_refl _)
                replace hB := hB.trans (st.mono hB.size)
                replace hV := hV.trans (st.mono hV.size)
                clear st
                obtain rfl : n_l = n_t := by rw [← o_l.len, ← o_t.len, HXL.out, HYL.out]
                go_wp2_with fail
                refine (wLess_any _ _ _ _ _ _ _ _ o_l.has o_t.has).mono ?_
                rintro e v16 ⟨rfl, q⟩
                have st : Below v15.heap.size v15 v16 := q.below _
                replace o_l := o_l.below st (Nat.le_refl _)
                replace o_t := o_t.below st (Nat.le_refl _)
                replace hB := hB.trans (st.mono hB.size)
                replace hV := hV.trans (st.mono hV.size)
                clear st
                clear q
                rw [HLS2.out]
                clear o_t o_l
                go_wp2_with fail
                go_ret
                exact ⟨rfl, hB⟩
              · skip
                have HAN : Hid (slAtOf (k : Int) (s : Int) ((q : Int) + 1) = ([], false)) := hid (sl_at_no (by rw [HCC.out]; omega))
                have g3 : decide ((q : Int) + 1 < (c : Int)) = false := by simp; omega
                clear H7
                have hqq : ((q : Int) == (q : Int)) = true := by simp
                go_wp2_with fail
                refine (implRankSl_any _ _ _ _ _ _ o_l.has).mono ?_
                rw [HRK.out]
                rintro e v14 ⟨rfl, st⟩
                replace o_l := o_l.below st (Nat.le_refl _)
                replace hB := hB.trans (st.mono hB.size)
                replace hV := hV.trans (st.mono hV.size)
                clear st
                go_wp2_with fail
                refine (implSlAt_any _ _ _ _).mono ?_
                rw [HAN.out]
                rintro e v15 ⟨a_t, n_t, c_t, rfl, o_t, st⟩
                replace o_l := o_l.below st (Nat.le_refl _)
                replace hB := hB.trans (st.mono hB.size)
                replace hV := hV.trans (st.mono hV.size)
                clear st
                clear o_t o_l
                go_wp2_with fail
                go_ret
                exact ⟨rfl, hB⟩
        · skip
          have HAL : Hid (allSlOf mm ww = ([], false)) := hid (sl_all_no hM)
          clear hM
          go_wp2_with fail
          refine (implAllSl_any _ _ _).mono ?_
          rw [HAL.out]
          rintro e v9 ⟨a_g, n_g, c_g, rs, rfl, R_g, hng, st⟩
          replace o_l := o_l.below st (Nat.le_refl _)
          replace hB := hB.trans (st.mono hB.size)
          clear st
          go_wp2_with fail
          refine (specAllSl_any _ _ _).mono ?_
          rw [HAL.out]
          rintro e v10 ⟨a_s, n_s, c_s, ss, rfl, R_s, hns, st⟩
          replace o_l := o_l.below st (Nat.le_refl _)
          replace R_g := R_g.below st (Nat.le_refl _)
          replace hB := hB.trans (st.mono hB.size)
          clear st
          have HRS : Hid (sameR rs ss = true) := hid (sameR_self' (hng.trans hns.symm))
          have HNG := hid hng
          clear hng hns
          go_wp2_with fail
          refine (wRows_any _ _ _ _ _ _ _ _ _ R_g.has R_s.has).mono ?_
          rintro e v11 ⟨rfl, q⟩
          have st : Below v10.heap.size v10 v11 := q.below _
          replace o_l := o_l.below st (Nat.le_refl _)
          replace R_g := R_g.below st (Nat.le_refl _)
          replace R_s := R_s.below st (Nat.le_refl _)
          replace hB := hB.trans (st.mono hB.size)
          clear st
          clear q
          rw [HRS.out]
          clear HRS R_s
          clear R_g
          by_cases hlast : q + 1 < c
          · skip
            obtain ⟨ys, f1, f2, f3⟩ := H7.out hlast
            have HAN := hid f1
            have HYL := hid f2
            have HLS2 := hid f3
            have g3 : decide ((q : Int) + 1 < (c : Int)) = true := by simp; omega
            clear f1 f2 f3 H7
            have hqq : ((q : Int) == (q : Int)) = true := by simp
            go_wp2_with fail
            refine (implRankSl_any _ _ _ _ _ _ o_l.has).mono ?_
            rw [HRK.out]
            rintro e v12 ⟨rfl, st⟩
            replace o_l := o_l.below st (Nat.le_refl _)
            replace hB := hB.trans (st.mono hB.size)
            clear st
            go_wp2_with fail
            refine (implSlAt_any _ _ _ _).mono ?_
            rw [HAN.out]
            rintro e v13 ⟨a_t, n_t, c_t, rfl, o_t, st⟩
            replace o_l := o_l.below st (Nat.le_refl _)
            replace hB := hB.trans (st.mono hB.size)
            clear st
            obtain rfl : n_l = n_t := by rw [← o_l.len, ← o_t.len, HXL.out, HYL.out]
            go_wp2_with fail
            refine (wLess_any _ _ _ _ _ _ _ _ o_l.has o_t.has).mono ?_
            rintro e v14 ⟨rfl, q⟩
            have st : Below v13.heap.size v13 v14 := q.below _
            replace o_l := o_l.below st (Nat.le_refl _)
            replace o_t := o_t.below st (Nat.le_refl _)
            replace hB := hB.trans (st.mono hB.size)
            clear st
            clear q
            rw [HLS2.out]
            clear o_t o_l
            go_wp2_with fail
            go_ret
            exact ⟨rfl, hB⟩
          · skip
            have HAN : Hid (slAtOf (k : Int) (s : Int) ((q : Int) + 1) = ([], false)) := hid (sl_at_no (by rw [HCC.out]; omega))
            have g3 : decide ((q : Int) + 1 < (c : Int)) = false := by simp; omega
            clear H7
            have hqq : ((q : Int) == (q : Int)) = true := by simp
            go_wp2_with fail
            refine (implRankSl_any _ _ _ _ _ _ o_l.has).mono ?_
            rw [HRK.out]
            rintro e v12 ⟨rfl, st⟩
            replace o_l := o_l.below st (Nat.le_refl _)
            replace hB := hB.trans (st.mono hB.size)
            clear st
            go_wp2_with fail
            refine (implSlAt_any _ _ _ _).mono ?_
            rw [HAN.out]
            rintro e v13 ⟨a_t, n_t, c_t, rfl, o_t, st⟩
            replace o_l := o_l.below st (Nat.le_refl _)
            replace hB := hB.trans (st.mono hB.size)
            clear st
            clear o_t o_l
            go_wp2_with fail
            go_ret
            exact ⟨rfl, hB⟩
      · skip
        have HAT : Hid (slAtOf (k : Int) (s : Int) rr = ([], false)) := hid (sl_at_no (by rw [hc]; exact hr))
        clear hc hs
        by_cases hneg : rr < 0
        · skip
          have g1 : decide ((0 : Int) ≤ rr) = false := by simp; omega
          go_wp2_with fail
          refine (implSlAt_any _ _ _ _).mono ?_
          rw [HAT.out]
          rintro e v2 ⟨a_l, n_l, c_l, rfl, o_l, st⟩
          replace hB := hB.trans (st.mono hB.size)
          clear st
          go_wp2_with fail
          refine (specSlAt_any _ _ _ _).mono ?_
          rw [HAT.out]
          rintro e v3 ⟨a_r, n_r, c_r, rfl, o_r, st⟩
          replace o_l := o_l.below st (Nat.le_refl _)
          replace hB := hB.trans (st.mono hB.size)
          clear st
          go_wp2_with fail
          refine (implCntSl_any _ _ _).mono ?_
          rw [HCT.out]
          rintro e v4 ⟨rfl, st⟩
          replace o_l := o_l.below st (Nat.le_refl _)
          replace o_r := o_r.below st (Nat.le_refl _)
          replace hB := hB.trans (st.mono hB.size)
          clear st
          go_wp2_with fail
          refine (specCntSl_any _ _ _).mono ?_
          rw [HCT.out]
          rintro e v5 ⟨rfl, st⟩
          replace o_l := o_l.below st (Nat.le_refl _)
          replace o_r := o_r.below st (Nat.le_refl _)
          replace hB := hB.trans (st.mono hB.size)
          clear st
          go_wp2_with fail
          refine (wSame_any _ _ _ _ _ _ _ _ _ o_l.has o_r.has).mono ?_
          rintro e v6 ⟨rfl, q⟩
          have st : Below v5.heap.size v5 v6 := q.below _
          replace o_l := o_l.below st (Nat.le_refl _)
          replace o_r := o_r.below st (Nat.le_refl _)
          replace hB := hB.trans (st.mono hB.size)
          clear st
          clear q
          rw [same_self]
          clear o_r
          go_wp2_with fail
          refine (implIsSlope_any _ _ _).mono ?_
          rw [HIS.out]
          rintro e v7 ⟨rfl, st⟩
          replace o_l := o_l.below st (Nat.le_refl _)
          replace hB := hB.trans (st.mono hB.size)
          clear st
          go_wp2_with fail
          refine (drawAllSlope_any b m cap' _ (HM.out.grow hB (Nat.le_refl _))).mono ?_
          rintro e v8 ⟨mm, ww, rfl, m0, m1, q0, q1, st⟩
          replace o_l := o_l.below st (Nat.le_refl _)
          replace hB := hB.trans (st.mono hB.size)
          clear st
          by_cases hM : slB mm ww = true ∧ ww.toNat ^ (mm.toNat - 1) ≤ 700
          · skip
            obtain ⟨j, d, rfl, rfl, hsj⟩ := slB_iff.1 hM.1
            have HSJ := hid hsj
            have HAL : Hid (allSlOf (j : Int) (d : Int) = (allB' (bnds j d), true)) := hid (sl_all_yes hsj (by simpa using hM.2))
            clear hM hsj m0 m1 q0 q1
            go_wp2_with fail
            refine (implAllSl_any _ _ _).mono ?_
            rw [HAL.out]
            rintro e v9 ⟨a_g, n_g, c_g, rs, rfl, R_g, hng, st⟩
            replace o_l := o_l.below st (Nat.le_refl _)
            replace hB := hB.trans (st.mono hB.size)
            clear st
            go_wp2_with fail
            refine (specAllSl_any _ _ _).mono ?_
            rw [HAL.out]
            rintro e v10 ⟨a_s, n_s, c_s, ss, rfl, R_s, hns, st⟩
            replace o_l := o_l.below st (Nat.le_refl _)
            replace R_g := R_g.below st (Nat.le_refl _)
            replace hB := hB.trans (st.mono hB.size)
            clear st
            have HRS : Hid (sameR rs ss = true) := hid (sameR_self' (hng.trans hns.symm))
            have HNG := hid hng
            clear hng hns
            go_wp2_with fail
            refine (wRows_any _ _ _ _ _ _ _ _ _ R_g.has R_s.has).mono ?_
            rintro e v11 ⟨rfl, q⟩
            have st : Below v10.heap.size v10 v11 := q.below _
            replace o_l := o_l.below st (Nat.le_refl _)
            replace R_g := R_g.below st (Nat.le_refl _)
            replace R_s := R_s.below st (Nat.le_refl _)
            replace hB := hB.trans (st.mono hB.size)
            clear st
            clear q
            rw [HRS.out]
            clear HRS R_s
            have hgl := R_g.len
            obtain ⟨s1, s2⟩ := slr_num hgl HSJ.out HNG.out
            obtain ⟨mg, hmg⟩ : ∃ mg, n_g = mg + 1 := ⟨n_g - 1, by omega⟩
            subst hmg
            have HC := hid s1
            have HGL := hid hgl
            have hne0 := neq_self_int ((mg : Int) + 1)
            clear s1 s2 hgl
            go_wp2_with fail
            refine (implCntSl_any _ _ _).mono ?_
            rw [HC.out]
            rintro e v12 ⟨rfl, st⟩
            replace o_l := o_l.below st (Nat.le_refl _)
            replace R_g := R_g.below st (Nat.le_refl _)
            replace hB := hB.trans (st.mono hB.size)
            clear st
            have hgl2 : mg + 1 ≤ 2097152 := R_g.has.2.2.2.1
            obtain ⟨bg, offg, rfl, hbg, -⟩ := R_g.has.2.2.2.2.1 (by omega)
            go_wp2_with fail
            go_loopw [153] (fun i wr => ∃ j : Nat, j ≤ mg + 1 ∧ i = .int .i64 j ∧ Below v12.heap.size v12 wr) (fun i _ => mg + 1 - (intOf i).toNat)
            case atStart => exact ⟨0, by omega, rfl, Below.refl _ _⟩
            case round =>
              obtain ⟨wo, rfl⟩ : ∃ wo : World, wo = wr := ⟨_, rfl⟩
              obtain ⟨i, hj, rfl, st⟩ := hrel
              have hV := st
              replace o_l := o_l.below st (Nat.le_refl _)
              replace R_g := R_g.below st (Nat.le_refl _)
              replace hB := hB.trans (st.mono hB.size)
              clear st
              by_cases hlt : i < mg + 1
              · skip
                obtain ⟨ak, ck, hck, H_k, f1, -⟩ := slr_row R_g.has HSJ.out HNG.out (k := i) (by omega)
                have HP := hid f1
                clear f1
                by_cases hj0 : i = 0
                · skip
                  subst hj0
                  rw [Nat.add_zero] at hck
                  go_wp2_with fail
                  refine (implIsSl_any _ _ _ _ _ _ H_k).mono ?_
                  rw [HP.out]
                  rintro e v13 ⟨rfl, st⟩
                  replace o_l := o_l.below st (Nat.le_refl _)
                  replace R_g := R_g.below st (Nat.le_refl _)
                  replace H_k := H_k.below st (Nat.le_refl _)
                  replace hB := hB.trans (st.mono hB.size)
                  replace hV := hV.trans (st.mono hV.size)
                  clear st
                  clear hck
                  go_wp2_with fail
                  go_roundw
                  case rel => exact ⟨1, by omega, by go_num, hV⟩
                  case measure => simp [intOf] <;> omega
                · skip
                  obtain ⟨x, rfl⟩ : ∃ x, i = x + 1 := ⟨i - 1, by omega⟩
                  go_wp2_with fail
                  refine (implIsSl_any _ _ _ _ _ _ H_k).mono ?_
                  rw [HP.out]
                  rintro e v13 ⟨rfl, st⟩
                  replace o_l := o_l.below st (Nat.le_refl _)
                  replace R_g := R_g.below st (Nat.le_refl _)
                  replace H_k := H_k.below st (Nat.le_refl _)
                  replace hB := hB.trans (st.mono hB.size)
                  replace hV := hV.trans (st.mono hV.size)
                  clear st
                  clear hck
                  obtain ⟨aj, cj, hcj, H_j, -⟩ := slr_row R_g.has HSJ.out HNG.out (k := x) (by omega)
                  have HLS := hid (slr_less HGL.out HSJ.out HNG.out (k := x) (by omega))
                  go_wp2_with fail
                  refine (wLess_any _ _ _ _ _ _ _ _ H_j H_k).mono ?_
                  rintro e v14 ⟨rfl, q⟩
                  have st : Below v13.heap.size v13 v14 := q.below _
                  replace o_l := o_l.below st (Nat.le_refl _)
                  replace R_g := R_g.below st (Nat.le_refl _)
                  replace H_k := H_k.below st (Nat.le_refl _)
                  replace H_j := H_j.below st (Nat.le_refl _)
                  replace hB := hB.trans (st.mono hB.size)
                  replace hV := hV.trans (st.mono hV.size)
                  clear st
                  clear q hcj
                  rw [HLS.out]
                  go_wp2_with fail
                  go_roundw
                  case rel => exact ⟨x + 2, by omega, by go_num, hV⟩
                  case measure => simp [intOf] <;> omega
              · skip
                obtain rfl : i = mg + 1 := by omega
                obtain ⟨z, hz⟩ : ∃ z : Int, (n : Int) + (m : Int) = z := ⟨_, rfl⟩
                have z0 : 0 ≤ z := by omega
                have hwz : IntKind.i64.wrap ((n : Int) + (m : Int)) = z := by rw [IntKind.wrap_i64]; omega
                clear hz
                have hmz : ¬ (mg : Int) + 1 = 0 := by omega
                have hi0 : 0 ≤ z % ((mg : Int) + 1) := Int.emod_nonneg _ hmz
                have hi1 : z % ((mg : Int) + 1) < (mg : Int) + 1 := Int.emod_lt_of_pos z (show 0 < (mg : Int) + 1 by omega)
                obtain ⟨ai, ci, hci, H_i, -, hri⟩ := slr_row R_g.has HSJ.out HNG.out (k := (z % ((mg : Int) + 1)).toNat) (by omega)
                rw [Int.toNat_of_nonneg hi0] at hri
                have HRI := hid hri
                have hse := neq_self_int (z % ((mg : Int) + 1))
                clear hri
                go_wp2_with fail
                refine (implRankSl_any _ _ _ _ _ _ H_i).mono ?_
                rw [HRI.out]
                rintro e v13 ⟨rfl, st⟩
                replace o_l := o_l.below st (Nat.le_refl _)
                replace R_g := R_g.below st (Nat.le_refl _)
                replace H_i := H_i.below st (Nat.le_refl _)
                replace hB := hB.trans (st.mono hB.size)
                replace hV := hV.trans (st.mono hV.size)
                clear st
                clear hci R_g
                clear H_i
                clear o_l
                go_wp2_with fail
                go_ret
                exact ⟨rfl, hB⟩
          · skip
            have HAL : Hid (allSlOf mm ww = ([], false)) := hid (sl_all_no hM)
            clear hM
            go_wp2_with fail
            refine (implAllSl_any _ _ _).mono ?_
            rw [HAL.out]
            rintro e v9 ⟨a_g, n_g, c_g, rs, rfl, R_g, hng, st⟩
            replace o_l := o_l.below st (Nat.le_refl _)
            replace hB := hB.trans (st.mono hB.size)
            clear st
            go_wp2_with fail
            refine (specAllSl_any _ _ _).mono ?_
            rw [HAL.out]
            rintro e v10 ⟨a_s, n_s, c_s, ss, rfl, R_s, hns, st⟩
            replace o_l := o_l.below st (Nat.le_refl _)
            replace R_g := R_g.below st (Nat.le_refl _)
            replace hB := hB.trans (st.mono hB.size)
            clear st
            have HRS : Hid (sameR rs ss = true) := hid (sameR_self' (hng.trans hns.symm))
            have HNG := hid hng
            clear hng hns
            go_wp2_with fail
            refine (wRows_any _ _ _ _ _ _ _ _ _ R_g.has R_s.has).mono ?_
            rintro e v11 ⟨rfl, q⟩
            have st : Below v10.heap.size v10 v11 := q.below _
            replace o_l := o_l.below st (Nat.le_refl _)
            replace R_g := R_g.below st (Nat.le_refl _)
            replace R_s := R_s.below st (Nat.le_refl _)
            replace hB := hB.trans (st.mono hB.size)
            clear st
            clear q
            rw [HRS.out]
            clear HRS R_s
            clear R_g
            clear o_l
            go_wp2_with fail
            go_ret
            exact ⟨rfl, hB⟩
        · skip
          have g1 : decide ((0 : Int) ≤ rr) = true := by simp; omega
          have g2 : decide (rr < (c : Int)) = false := by simp; omega
          clear r0 r1
          go_wp2_with fail
          refine (implSlAt_any _ _ _ _).mono ?_
          rw [HAT.out]
          rintro e v2 ⟨a_l, n_l, c_l, rfl, o_l, st⟩
          replace hB := hB.trans (st.mono hB.size)
          clear st
          go_wp2_with fail
          refine (specSlAt_any _ _ _ _).mono ?_
          rw [HAT.out]
          rintro e v3 ⟨a_r, n_r, c_r, rfl, o_r, st⟩
          replace o_l := o_l.below st (Nat.le_refl _)
          replace hB := hB.trans (st.mono hB.size)
          clear st
          go_wp2_with fail
          refine (implCntSl_any _ _ _).mono ?_
          rw [HCT.out]
          rintro e v4 ⟨rfl, st⟩
          replace o_l := o_l.below st (Nat.le_refl _)
          replace o_r := o_r.below st (Nat.le_refl _)
          replace hB := hB.trans (st.mono hB.size)
          clear st
          go_wp2_with fail
          refine (specCntSl_any _ _ _).mono ?_
          rw [HCT.out]
          rintro e v5 ⟨rfl, st⟩
          replace o_l := o_l.below st (Nat.le_refl _)
          replace o_r := o_r.below st (Nat.le_refl _)
          replace hB := hB.trans (st.mono hB.size)
          clear st
          go_wp2_with fail
          refine (wSame_any _ _ _ _ _ _ _ _ _ o_l.has o_r.has).mono ?_
          rintro e v6 ⟨rfl, q⟩
          have st : Below v5.heap.size v5 v6 := q.below _
          replace o_l := o_l.below st (Nat.le_refl _)
          replace o_r := o_r.below st (Nat.le_refl _)
          replace hB := hB.trans (st.mono hB.size)
          clear st
          clear q
          rw [same_self]
          clear o_r
          go_wp2_with fail
          refine (implIsSlope_any _ _ _).mono ?_
          rw [HIS.out]
          rintro e v7 ⟨rfl, st⟩
          replace o_l := o_l.below st (Nat.le_refl _)
          replace hB := hB.trans (st.mono hB.size)
          clear st
          go_wp2_with fail
          refine (drawAllSlope_any b m cap' _ (HM.out.grow hB (Nat.le_refl _))).mono ?_
          rintro e v8 ⟨mm, ww, rfl, m0, m1, q0, q1, st⟩
          replace o_l := o_l.below st (Nat.le_refl _)
          replace hB := hB.trans (st.mono hB.size)
          clear st
          by_cases hM : slB mm ww = true ∧ ww.toNat ^ (mm.toNat - 1) ≤ 700
          · skip
            obtain ⟨j, d, rfl, rfl, hsj⟩ := slB_iff.1 hM.1
            have HSJ := hid hsj
            have HAL : Hid (allSlOf (j : Int) (d : Int) = (allB' (bnds j d), true)) := hid (sl_all_yes hsj (by simpa using hM.2))
            clear hM hsj m0 m1 q0 q1
            go_wp2_with fail
            refine (implAllSl_any _ _ _).mono ?_
            rw [HAL.out]
            rintro e v9 ⟨a_g, n_g, c_g, rs, rfl, R_g, hng, st⟩
            replace o_l := o_l.below st (Nat.le_refl _)
            replace hB := hB.trans (st.mono hB.size)
            clear st
            go_wp2_with fail
            refine (specAllSl_any _ _ _).mono ?_
            rw [HAL.out]
            rintro e v10 ⟨a_s, n_s, c_s, ss, rfl, R_s, hns, st⟩
            replace o_l := o_l.below st (Nat.le_refl _)
            replace R_g := R_g.below st (Nat.le_refl _)
            replace hB := hB.trans (st.mono hB.size)
            clear st
            have HRS : Hid (sameR rs ss = true) := hid (sameR_self' (hng.trans hns.symm))
            have HNG := hid hng
            clear hng hns
            go_wp2_with fail
            refine (wRows_any _ _ _ _ _ _ _ _ _ R_g.has R_s.has).mono ?_
            rintro e v11 ⟨rfl, q⟩
            have st : Below v10.heap.size v10 v11 := q.below _
            replace o_l := o_l.below st (Nat.le_refl _)
            replace R_g := R_g.below st (Nat.le_refl _)
            replace R_s := R_s.below st (Nat.le_refl _)
            replace hB := hB.trans (st.mono hB.size)
            clear st
            clear q
            rw [HRS.out]
            clear HRS R_s
            have hgl := R_g.len
            obtain ⟨s1, s2⟩ := slr_num hgl HSJ.out HNG.out
            obtain ⟨mg, hmg⟩ : ∃ mg, n_g = mg + 1 := ⟨n_g - 1, by omega⟩
            subst hmg
            have HC := hid s1
            have HGL := hid hgl
            have hne0 := neq_self_int ((mg : Int) + 1)
            clear s1 s2 hgl
            go_wp2_with fail
            refine (implCntSl_any _ _ _).mono ?_
            rw [HC.out]
            rintro e v12 ⟨rfl, st⟩
            replace o_l := o_l.below st (Nat.le_refl _)
            replace R_g := R_g.below st (Nat.le_refl _)
            replace hB := hB.trans (st.mono hB.size)
            clear st
            have hgl2 : mg + 1 ≤ 2097152 := R_g.has.2.2.2.1
            obtain ⟨bg, offg, rfl, hbg, -⟩ := R_g.has.2.2.2.2.1 (by omega)
            go_wp2_with fail
            go_loopw [153] (fun i wr => ∃ j : Nat, j ≤ mg + 1 ∧ i = .int .i64 j ∧ Below v12.heap.size v12 wr) (fun i _ => mg + 1 - (intOf i).toNat)
            case atStart => exact ⟨0, by omega, rfl, Below.refl _ _⟩
            case round =>
              obtain ⟨wo, rfl⟩ : ∃ wo : World, wo = wr := ⟨_, rfl⟩
              obtain ⟨i, hj, rfl, st⟩ := hrel
              have hV := st
              replace o_l := o_l.below st (Nat.le_refl _)
              replace R_g := R_g.below st (Nat.le_refl _)
              replace hB := hB.trans (st.mono hB.size)
              clear st
              by_cases hlt : i < mg + 1
              · skip
                obtain ⟨ak, ck, hck, H_k, f1, -⟩ := slr_row R_g.has HSJ.out HNG.out (k := i) (by omega)
                have HP := hid f1
                clear f1
                by_cases hj0 : i = 0
                · skip
                  subst hj0
                  rw [Nat.add_zero] at hck
                  go_wp2_with fail
                  refine (implIsSl_any _ _ _ _ _ _ H_k).mono ?_
                  rw [HP.out]
                  rintro e v13 ⟨rfl, st⟩
                  replace o_l := o_l.below st (Nat.le_refl _)
                  replace R_g := R_g.below st (Nat.le_refl _)
                  replace H_k := H_k.below st (Nat.le_refl _)
                  replace hB := hB.trans (st.mono hB.size)
                  replace hV := hV.trans (st.mono hV.size)
                  clear st
                  clear hck
                  go_wp2_with fail
                  go_roundw
                  case rel => exact ⟨1, by omega, by go_num, hV⟩
                  case measure => simp [intOf] <;> omega
                · skip
                  obtain ⟨x, rfl⟩ : ∃ x, i = x + 1 := ⟨i - 1, by omega⟩
                  go_wp2_with fail
                  refine (implIsSl_any _ _ _ _ _ _ H_k).mono ?_
                  rw [HP.out]
                  rintro e v13 ⟨rfl, st⟩
                  replace o_l := o_l.below st (Nat.le_refl _)
                  replace R_g := R_g.below st (Nat.le_refl _)
                  replace H_k := H_k.below st (Nat.le_refl _)
                  replace hB := hB.trans (st.mono hB.size)
                  replace hV := hV.trans (st.mono hV.size)
                  clear st
                  clear hck
                  obtain ⟨aj, cj, hcj, H_j, -⟩ := slr_row R_g.has HSJ.out HNG.out (k := x) (by omega)
                  have HLS := hid (slr_less HGL.out HSJ.out HNG.out (k := x) (by omega))
                  go_wp2_with fail
                  refine (wLess_any _ _ _ _ _ _ _ _ H_j H_k).mono ?_
                  rintro e v14 ⟨rfl, q⟩
                  have st : Below v13.heap.size v13 v14 := q.below _
                  replace o_l := o_l.below st (Nat.le_refl _)
                  replace R_g := R_g.below st (Nat.le_refl _)
                  replace H_k := H_k.below st (Nat.le_refl _)
                  replace H_j := H_j.below st (Nat.le_refl _)
                  replace hB := hB.trans (st.mono hB.size)
                  replace hV := hV.trans (st.mono hV.size)
                  clear st
                  clear q hcj
                  rw [HLS.out]
                  go_wp2_with fail
                  go_roundw
                  case rel => exact ⟨x + 2, by omega, by go_num, hV⟩
                  case measure => simp [intOf] <;> omega
              · skip
                obtain rfl : i = mg + 1 := by omega
                obtain ⟨z, hz⟩ : ∃ z : Int, (n : Int) + (m : Int) = z := ⟨_, rfl⟩
                have z0 : 0 ≤ z := by omega
                have hwz : IntKind.i64.wrap ((n : Int) + (m : Int)) = z := by rw [IntKind.wrap_i64]; omega
                clear hz
                have hmz : ¬ (mg : Int) + 1 = 0 := by omega
                have hi0 : 0 ≤ z % ((mg : Int) + 1) := Int.emod_nonneg _ hmz
                have hi1 : z % ((mg : Int) + 1) < (mg : Int) + 1 := Int.emod_lt_of_pos z (show 0 < (mg : Int) + 1 by omega)
                obtain ⟨ai, ci, hci, H_i, -, hri⟩ := slr_row R_g.has HSJ.out HNG.out (k := (z % ((mg : Int) + 1)).toNat) (by omega)
                rw [Int.toNat_of_nonneg hi0] at hri
                have HRI := hid hri
                have hse := neq_self_int (z % ((mg : Int) + 1))
                clear hri
                go_wp2_with fail
                refine (implRankSl_any _ _ _ _ _ _ H_i).mono ?_
                rw [HRI.out]
                rintro e v13 ⟨rfl, st⟩
                replace o_l := o_l.below st (Nat.le_refl _)
                replace R_g := R_g.below st (Nat.le_refl _)
                replace H_i := H_i.below st (Nat.le_refl _)
                replace hB := hB.trans (st.mono hB.size)
                replace hV := hV.trans (st.mono hV.size)
                clear st
                clear hci R_g
                clear H_i
                clear o_l
                go_wp2_with fail
                go_ret
                exact ⟨rfl, hB⟩
          · skip
            have HAL : Hid (allSlOf mm ww = ([], false)) := hid (sl_all_no hM)
            clear hM
            go_wp2_with fail
            refine (implAllSl_any _ _ _).mono ?_
            rw [HAL.out]
            rintro e v9 ⟨a_g, n_g, c_g, rs, rfl, R_g, hng, st⟩
            replace o_l := o_l.below st (Nat.le_refl _)
            replace hB := hB.trans (st.mono hB.size)
            clear st
            go_wp2_with fail
            refine (specAllSl_any _ _ _).mono ?_
            rw [HAL.out]
            rintro e v10 ⟨a_s, n_s, c_s, ss, rfl, R_s, hns, st⟩
            replace o_l := o_l.below st (Nat.le_refl _)
            replace R_g := R_g.below st (Nat.le_refl _)
            replace hB := hB.trans (st.mono hB.size)
            clear st
            have HRS : Hid (sameR rs ss = true) := hid (sameR_self' (hng.trans hns.symm))
            have HNG := hid hng
            clear hng hns
            go_wp2_with fail
            refine (wRows_any _ _ _ _ _ _ _ _ _ R_g.has R_s.has).mono ?_
            rintro e v11 ⟨rfl, q⟩
            have st : Below v10.heap.size v10 v11 := q.below _
            replace o_l := o_l.below st (Nat.le_refl _)
            replace R_g := R_g.below st (Nat.le_refl _)
            replace R_s := R_s.below st (Nat.le_refl _)
            replace hB := hB.trans (st.mono hB.size)
            clear st
            clear q
            rw [HRS.out]
            clear HRS R_s
            clear R_g
            clear o_l
            go_wp2_with fail
            go_ret
            exact ⟨rfl, hB⟩
    · skip
      have hN2 := Bool.eq_false_iff.2 hN
      have HAT : Hid (slAtOf nn aa rr = ([], false)) := hid (sl_at_bad hN2)
      have HCT : Hid (cntSlOf nn aa = (0, false)) := hid (sl_cnt_bad hN2)
      have HIS : Hid (isSlopeOf nn aa = false) := hid hN2
      clear hN hN2
      go_wp2_with fail
      refine (implSlAt_any _ _ _ _).mono ?_
      rw [HAT.out]
      rintro e v2 ⟨a_l, n_l, c_l, rfl, o_l, st⟩
      replace hB := hB.trans (st.mono hB.size)
      clear st
      go_wp2_with fail
      refine (specSlAt_any _ _ _ _).mono ?_
      rw [HAT.out]
      rintro e v3 ⟨a_r, n_r, c_r, rfl, o_r, st⟩
      replace o_l := o_l.below st (Nat.le_refl _)
      replace hB := hB.trans (st.mono hB.size)
      clear st
      go_wp2_with fail
      refine (implCntSl_any _ _ _).mono ?_
      rw [HCT.out]
      rintro e v4 ⟨rfl, st⟩
      replace o_l := o_l.below st (Nat.le_refl _)
      replace o_r := o_r.below st (Nat.le_refl _)
      replace hB := hB.trans (st.mono hB.size)
      clear st
      go_wp2_with fail
      refine (specCntSl_any _ _ _).mono ?_
      rw [HCT.out]
      rintro e v5 ⟨rfl, st⟩
      replace o_l := o_l.below st (Nat.le_refl _)
      replace o_r := o_r.below st (Nat.le_refl _)
      replace hB := hB.trans (st.mono hB.size)
      clear st
      go_wp2_with fail
      refine (wSame_any _ _ _ _ _ _ _ _ _ o_l.has o_r.has).mono ?_
      rintro e v6 ⟨rfl, q⟩
      have st : Below v5.heap.size v5 v6 := q.below _
      replace o_l := o_l.below st (Nat.le_refl _)
      replace o_r := o_r.below st (Nat.le_refl _)
      replace hB := hB.trans (st.mono hB.size)
      clear st
      clear q
      rw [same_self]
      clear o_r
      go_wp2_with fail
      refine (implIsSlope_any _ _ _).mono ?_
      rw [HIS.out]
      rintro e v7 ⟨rfl, st⟩
      replace o_l := o_l.below st (Nat.le_refl _)
      replace hB := hB.trans (st.mono hB.size)
      clear st
      go_wp2_with fail
      refine (drawAllSlope_any b m cap' _ (HM.out.grow hB (Nat.le_refl _))).mono ?_
      rintro e v8 ⟨mm, ww, rfl, m0, m1, q0, q1, st⟩
      replace o_l := o_l.below st (Nat.le_refl _)
      replace hB := hB.trans (st.mono hB.size)
      clear st
      by_cases hM : slB mm ww = true ∧ ww.toNat ^ (mm.toNat - 1) ≤ 700
      · skip
        obtain ⟨j, d, rfl, rfl, hsj⟩ := slB_iff.1 hM.1
        have HSJ := hid hsj
        have HAL : Hid (allSlOf (j : Int) (d : Int) = (allB' (bnds j d), true)) := hid (sl_all_yes hsj (by simpa using hM.2))
        clear hM hsj m0 m1 q0 q1
        go_wp2_with fail
        refine (implAllSl_any _ _ _).mono ?_
        rw [HAL.out]
        rintro e v9 ⟨a_g, n_g, c_g, rs, rfl, R_g, hng, st⟩
        replace o_l := o_l.below st (Nat.le_refl _)
        replace hB := hB.trans (st.mono hB.size)
        clear st
        go_wp2_with fail
        refine (specAllSl_any _ _ _).mono ?_
        rw [HAL.out]
        rintro e v10 ⟨a_s, n_s, c_s, ss, rfl, R_s, hns, st⟩
        replace o_l := o_l.below st (Nat.le_refl _)
        replace R_g := R_g.below st (Nat.le_refl _)
        replace hB := hB.trans (st.mono hB.size)
        clear st
        have HRS : Hid (sameR rs ss = true) := hid (sameR_self' (hng.trans hns.symm))
        have HNG := hid hng
        clear hng hns
        go_wp2_with fail
        refine (wRows_any _ _ _ _ _ _ _ _ _ R_g.has R_s.has).mono ?_
        rintro e v11 ⟨rfl, q⟩
        have st : Below v10.heap.size v10 v11 := q.below _
        replace o_l := o_l.below st (Nat.le_refl _)
        replace R_g := R_g.below st (Nat.le_refl _)
        replace R_s := R_s.below st (Nat.le_refl _)
        replace hB := hB.trans (st.mono hB.size)
        clear st
        clear q
        rw [HRS.out]
        clear HRS R_s
        have hgl := R_g.len
        obtain ⟨s1, s2⟩ := slr_num hgl HSJ.out HNG.out
        obtain ⟨mg, hmg⟩ : ∃ mg, n_g = mg + 1 := ⟨n_g - 1, by omega⟩
        subst hmg
        have HC := hid s1
        have HGL := hid hgl
        have hne0 := neq_self_int ((mg : Int) + 1)
        clear s1 s2 hgl
        go_wp2_with fail
        refine (implCntSl_any _ _ _).mono ?_
        rw [HC.out]
        rintro e v12 ⟨rfl, st⟩
        replace o_l := o_l.below st (Nat.le_refl _)
        replace R_g := R_g.below st (Nat.le_refl _)
        replace hB := hB.trans (st.mono hB.size)
        clear st
        have hgl2 : mg + 1 ≤ 2097152 := R_g.has.2.2.2.1
        obtain ⟨bg, offg, rfl, hbg, -⟩ := R_g.has.2.2.2.2.1 (by omega)
        go_wp2_with fail
        go_loopw [153] (fun i wr => ∃ j : Nat, j ≤ mg + 1 ∧ i = .int .i64 j ∧ Below v12.heap.size v12 wr) (fun i _ => mg + 1 - (intOf i).toNat)
        case atStart => exact ⟨0, by omega, rfl, Below.refl _ _⟩
        case round =>
          obtain ⟨wo, rfl⟩ : ∃ wo : World, wo = wr := ⟨_, rfl⟩
          obtain ⟨i, hj, rfl, st⟩ := hrel
          have hV := st
          replace o_l := o_l.below st (Nat.le_refl _)
          replace R_g := R_g.below st (Nat.le_refl _)
          replace hB := hB.trans (st.mono hB.size)
          clear st
          by_cases hlt : i < mg + 1
          · skip
            obtain ⟨ak, ck, hck, H_k, f1, -⟩ := slr_row R_g.has HSJ.out HNG.out (k := i) (by omega)
            have HP := hid f1
            clear f1
            by_cases hj0 : i = 0
            · skip
              subst hj0
              rw [Nat.add_zero] at hck
              go_wp2_with fail
              refine (implIsSl_any _ _ _ _ _ _ H_k).mono ?_
              rw [HP.out]
              rintro e v13 ⟨rfl, st⟩
              replace o_l := o_l.below st (Nat.le_refl _)
              replace R_g := R_g.below st (Nat.le_refl _)
              replace H_k := H_k.below st (Nat.le_refl _)
              replace hB := hB.trans (st.mono hB.size)
              replace hV := hV.trans (st.mono hV.size)
              clear st
              clear hck
              go_wp2_with fail
              go_roundw
              case rel => exact ⟨1, by omega, by go_num, hV⟩
              case measure => simp [intOf] <;> omega
            · skip
              obtain ⟨x, rfl⟩ : ∃ x, i = x + 1 := ⟨i - 1, by omega⟩
              go_wp2_with fail
              refine (implIsSl_any _ _ _ _ _ _ H_k).mono ?_
              rw [HP.out]
              rintro e v13 ⟨rfl, st⟩
              replace o_l := o_l.below st (Nat.le_refl _)
              replace R_g := R_g.below st (Nat.le_refl _)
              replace H_k := H_k.below st (Nat.le_refl _)
              replace hB := hB.trans (st.mono hB.size)
              replace hV := hV.trans (st.mono hV.size)
              clear st
              clear hck
              obtain ⟨aj, cj, hcj, H_j, -⟩ := slr_row R_g.has HSJ.out HNG.out (k := x) (by omega)
              have HLS := hid (slr_less HGL.out HSJ.out HNG.out (k := x) (by omega))
              go_wp2_with fail
              refine (wLess_any _ _ _ _ _ _ _ _ H_j H_k).mono ?_
              rintro e v14 ⟨rfl, q⟩
              have st : Below v13.heap.size v13 v14 := q.below _
              replace o_l := o_l.below st (Nat.le_refl _)
              replace R_g := R_g.below st (Nat.le_refl _)
              replace H_k := H_k.below st (Nat.le_refl _)
              replace H_j := H_j.below st (Nat.le_refl _)
              replace hB := hB.trans (st.mono hB.size)
              replace hV := hV.trans (st.mono hV.size)
              clear st
              clear q hcj
              rw [HLS.out]
              go_wp2_with fail
              go_roundw
              case rel => exact ⟨x + 2, by omega, by go_num, hV⟩
              case measure => simp [intOf] <;> omega
          · skip
            obtain rfl : i = mg + 1 := by omega
            obtain ⟨z, hz⟩ : ∃ z : Int, (n : Int) + (m : Int) = z := ⟨_, rfl⟩
            have z0 : 0 ≤ z := by omega
            have hwz : IntKind.i64.wrap ((n : Int) + (m : Int)) = z := by rw [IntKind.wrap_i64]; omega
            clear hz
            have hmz : ¬ (mg : Int) + 1 = 0 := by omega
            have hi0 : 0 ≤ z % ((mg : Int) + 1) := Int.emod_nonneg _ hmz
            have hi1 : z % ((mg : Int) + 1) < (mg : Int) + 1 := Int.emod_lt_of_pos z (show 0 < (mg : Int) + 1 by omega)
            obtain ⟨ai, ci, hci, H_i, -, hri⟩ := slr_row R_g.has HSJ.out HNG.out (k := (z % ((mg : Int) + 1)).toNat) (by omega)
            rw [Int.toNat_of_nonneg hi0] at hri
            have HRI := hid hri
            have hse := neq_self_int (z % ((mg : Int) + 1))
            clear hri
            go_wp2_with fail
            refine (implRankSl_any _ _ _ _ _ _ H_i).mono ?_
            rw [HRI.out]
            rintro e v13 ⟨rfl, st⟩
            replace o_l := o_l.below st (Nat.le_refl _)
            replace R_g := R_g.below st (Nat.le_refl _)
            replace H_i := H_i.below st (Nat.le_refl _)
            replace hB := hB.trans (st.mono hB.size)
            replace hV := hV.trans (st.mono hV.size)
            clear st
            clear hci R_g
            clear H_i
            clear o_l
            go_wp2_with fail
            go_ret
            exact ⟨rfl, hB⟩
      · skip
        have HAL : Hid (allSlOf mm ww = ([], false)) := hid (sl_all_no hM)
        clear hM
        go_wp2_with fail
        refine (implAllSl_any _ _ _).mono ?_
        rw [HAL.out]
        rintro e v9 ⟨a_g, n_g, c_g, rs, rfl, R_g, hng, st⟩
        replace o_l := o_l.below st (Nat.le_refl _)
        replace hB := hB.trans (st.mono hB.size)
        clear st
        go_wp2_with fail
        refine (specAllSl_any _ _ _).mono ?_
        rw [HAL.out]
        rintro e v10 ⟨a_s, n_s, c_s, ss, rfl, R_s, hns, st⟩
        replace o_l := o_l.below st (Nat.le_refl _)
        replace R_g := R_g.below st (Nat.le_refl _)
        replace hB := hB.trans (st.mono hB.size)
        clear st
        have HRS : Hid (sameR rs ss = true) := hid (sameR_self' (hng.trans hns.symm))
        have HNG := hid hng
        clear hng hns
        go_wp2_with fail
        refine (wRows_any _ _ _ _ _ _ _ _ _ R_g.has R_s.has).mono ?_
        rintro e v11 ⟨rfl, q⟩
        have st : Below v10.heap.size v10 v11 := q.below _
        replace o_l := o_l.below st (Nat.le_refl _)
        replace R_g := R_g.below st (Nat.le_refl _)
        replace R_s := R_s.below st (Nat.le_refl _)
        replace hB := hB.trans (st.mono hB.size)
        clear st
        clear q
        rw [HRS.out]
        clear HRS R_s
        clear R_g
        clear o_l
        go_wp2_with fail
        go_ret
        exact ⟨rfl, hB⟩
end Go.Proofs.Ytfkejkkplafciad


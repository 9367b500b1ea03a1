/- What the named laws use besides: rows compared, lists in order, a number of some bytes. -/
import Derived.Test.YtpjgidjkpcbniabJ
import Derived.Test.YtpjgidjkpcbniabHelp2
import Derived.Test.YtpjgidjkpcbniabMathQ
namespace Go.Proofs.Ytpjgidjkpcbniab
open Go.RowKit

set_option maxHeartbeats 800000 in
theorem jRows_any (a b : Option Addr) (n m cap cap' : Nat) (rs ss : List Rw) (w : World) (h : HasR w a n cap rs) (h' : HasR w b m cap' ss) :
    Calls Try.prog 49 #[.slice a n cap, .slice b m cap'] w fun e w' => e = .returned (.bool (sameR rs ss)) ∧ Quiet w w' := by
  obtain ⟨h0, h1, h2, h3, h4, h5⟩ := h
  obtain ⟨k0, k1, k2, k3, k4, k5⟩ := h'
  by_cases hnm : n = m
  · have hb : ((n : Int) != (m : Int)) = false := by simp [hnm]
    subst hnm
    have HL := hid h0
    have HL' := hid k0
    have H5 := hid h5
    have K5 := hid k5
    clear h0 k0 h5 k5
    go_enter Try.func49, Try.ntmps49
    go_wp2_with fail
    go_loopw [13] (fun i wr => ∃ k : Nat, k ≤ n ∧ i = .int .i64 k ∧ Hid (∀ j, j < k → same (nthR rs j).xs (nthR ss j).xs = true) ∧ Quiet w wr) (fun i _ => n - (intOf i).toNat)
    case atStart => exact ⟨0, Nat.zero_le _, rfl, hid (fun i hi => by omega), ⟨0, rfl⟩⟩
    case round =>
      obtain ⟨k, hk, rfl, HF, HQ⟩ := hrel
      by_cases hlt : k < n
      · obtain ⟨b1, off1, rfl, hb1, hc1⟩ := h4 (by omega)
        obtain ⟨b2, off2, rfl, hb2, hc2⟩ := k4 (by omega)
        have hck : wr.cell? ⟨b1, off1 + k, none⟩ = some (nthR rs k).v := by obtain ⟨q, hq⟩ := HQ; rw [hq]; exact hc1 k hlt
        have hdk : wr.cell? ⟨b2, off2 + k, none⟩ = some (nthR ss k).v := by obtain ⟨q, hq⟩ := HQ; rw [hq]; exact hc2 k hlt
        have hkk : (k : Int) < (n : Int) := by omega
        have hkz : (0 : Int) ≤ (k : Int) := by omega
        have cq : ∀ j, Calls Try.prog 50 #[(nthR rs k).v, (nthR ss k).v] (wr.drewN j) fun e w' => e = .returned (.bool (same (nthR rs k).xs (nthR ss k).xs)) ∧ ∃ m, w' = (wr.drewN j).drewN m := fun j =>
          jSame_any _ _ _ _ _ _ _ _ _ (by obtain ⟨q, hq⟩ := HQ; rw [hq]; exact H5.out k hlt) (by obtain ⟨q, hq⟩ := HQ; rw [hq]; exact K5.out k hlt)
        clear hc1 hc2 h4 k4
        have HN := hid (sameR_no (rs := rs) (ss := ss) (k := k) (by rw [HL.out]; omega) (by rw [HL'.out]; omega))
        have HF2 := hid (fun (hh : same (nthR rs k).xs (nthR ss k).xs = true) (j : Nat) (hj : j < k + 1) => (show same (nthR rs j).xs (nthR ss j).xs = true from by rcases Nat.lt_succ_iff_lt_or_eq.1 hj with h1 | rfl; exact HF.out j h1; exact hh))
        generalize nthR rs k = rk at *
        generalize nthR ss k = sk at *
        by_cases he : same rk.xs sk.xs = true
        · have HE := hid he
          rw [he] at cq
          have CQ := hid cq
          clear he cq
          go_wp2_with fail
          go_quiet ((go_at_call 50; exact Calls.quiet_of (CQ.out _)))
          go_wp2_with fail
          go_roundw
          case rel => exact ⟨k + 1, by omega, by go_num, hid (HF2.out HE.out), Quiet.more HQ _⟩
          case measure => simp [intOf]; omega
        · have he' := Bool.eq_false_iff.2 he
          have HE := hid he'
          rw [he'] at cq
          have CQ := hid cq
          clear he he' cq
          go_wp2_with fail
          go_quiet ((go_at_call 50; exact Calls.quiet_of (CQ.out _)))
          go_wp2_with fail
          go_ret
          exact ⟨ret_bool (HN.out HE.out).symm, Quiet.more HQ _⟩
      · obtain rfl : k = n := by omega
        go_wp2_with fail
        go_ret
        exact ⟨ret_bool (sameR_yes (by rw [HL.out, HL'.out]) (by rw [HL.out]; exact HF.out)).symm, HQ⟩
  · have hb : ((n : Int) != (m : Int)) = true := by simp; omega
    have HR : Hid (sameR rs ss = false) := hid (by
      unfold sameR; rw [decide_eq_false_iff_not]
      intro e
      have : (numsOf rs).length = (numsOf ss).length := by rw [e]
      simp [numsOf] at this
      omega)
    go_enter Try.func49, Try.ntmps49
    go_wp2_with fail
    go_ret
    exact ⟨ret_bool HR.out.symm, ⟨0, rfl⟩⟩


set_option maxHeartbeats 800000 in
theorem jLess_any (a b : Option Addr) (n cap cap' : Nat) (xs ys : List Int) (w : World) (h : Has w a n cap xs) (h' : Has w b n cap' ys) :
    Calls Try.prog 52 #[.slice a n cap, .slice b n cap'] w fun e w' => e = .returned (.bool (lexLess xs ys)) ∧ Quiet w w' := by
  obtain ⟨h0, h1, h2, h3, h4⟩ := h
  obtain ⟨k0, k1, k2, k3, k4⟩ := h'
  have HL := hid h0
  have HL' := hid k0
  clear h0 k0
  go_enter Try.func52, Try.ntmps52
  go_wp2_with fail
  go_loopw [8] (fun i wr => ∃ k : Nat, k ≤ n ∧ i = .int .i64 k ∧ Hid (∀ i, i < k → nth xs i = nth ys i) ∧ Quiet w wr) (fun i _ => n - (intOf i).toNat)
  case atStart => exact ⟨0, Nat.zero_le _, rfl, hid (fun i hi => by omega), ⟨0, rfl⟩⟩
  case round =>
    obtain ⟨k, hk, rfl, HF, q, hq⟩ := hrel
    subst hq
    by_cases hlt : k < n
    · obtain ⟨b1, off1, rfl, hb1, hc1⟩ := h4 (by omega)
      obtain ⟨b2, off2, rfl, hb2, hc2⟩ := k4 (by omega)
      have hck := hc1 k hlt
      have hdk := hc2 k hlt
      have hkk : (k : Int) < (n : Int) := by omega
      have hkz : (0 : Int) ≤ (k : Int) := by omega
      have HX := hid (fun (hne : nth xs k ≠ nth ys k) => lexLess_at k xs ys (by rw [HL.out]; exact hlt) (by rw [HL.out, HL'.out]) HF.out hne)
      clear hc1 hc2 h4 k4
      by_cases he : nth xs k = nth ys k
      · have hbe : (nth xs k != nth ys k) = false := by simp [he]
        have HE := hid he
        clear he
        go_wp2_with fail
        go_quiet (fail)
        go_wp2_with fail
        go_roundw
        case rel => exact ⟨k + 1, by omega, by go_num, hid (fun i hi => by rcases Nat.lt_succ_iff_lt_or_eq.1 hi with h | rfl; exact HF.out i h; exact HE.out), ⟨_, rfl⟩⟩
        case measure => simp [intOf]; omega
      · have hbe : (nth xs k != nth ys k) = true := by simp [he]
        have HR := hid (HX.out he)
        clear he HX
        go_wp2_with fail
        go_quiet (fail)
        go_wp2_with fail
        go_quiet (fail)
        go_wp2_with fail
        go_ret
        exact ⟨ret_bool HR.out.symm, (Quiet.more (Quiet.more ⟨_, rfl⟩ _) _)⟩
    · obtain rfl : k = n := by omega
      have HR : Hid (lexLess xs ys = false) := hid (by
        rw [ext_nth (xs := xs) (ys := ys) (by rw [HL.out, HL'.out]) (by rw [HL.out]; exact HF.out)]
        exact lexLess_same _)
      go_wp2_with fail
      go_ret
      exact ⟨ret_bool HR.out.symm, ⟨_, rfl⟩⟩

/-- A slice of bytes below block K, with its bytes. -/
def Bytes (w : World) (a : Option Addr) (n K : Nat) (bs : List Int) : Prop :=
  bs.length = n ∧ n ≤ 1099511627776 ∧ (0 < n → ∃ b off, a = some ⟨b, off, none⟩ ∧ b < K ∧ ∀ i, i < n → 0 ≤ nth bs i ∧ nth bs i ≤ 255 ∧ w.cell? ⟨b, off + i, none⟩ = some (.int .u8 (nth bs i)))
theorem bytes_of {w : World} {a : Option Addr} {n K : Nat} (h : HasB w a n K) : ∃ bs, Bytes w a n K bs := by
  obtain ⟨hn, h⟩ := h
  by_cases hx : 0 < n
  · obtain ⟨b, off, ha, hb, hc⟩ := h hx
    have key : ∀ m, m ≤ n → ∃ bs : List Int, bs.length = m ∧ ∀ i, i < m → 0 ≤ nth bs i ∧ nth bs i ≤ 255 ∧ w.cell? ⟨b, off + i, none⟩ = some (.int .u8 (nth bs i)) := by
      intro m
      induction m with
      | zero => intro _; exact ⟨[], rfl, fun i hi => by omega⟩
      | succ m ih =>
        intro hm
        obtain ⟨bs, hl, hbs⟩ := ih (by omega)
        obtain ⟨u, u0, u1, hu⟩ := hc m (by omega)
        refine ⟨bs ++ [u], by simp [hl], fun i hi => ?_⟩
        by_cases e : i = m
        · subst e
          have : nth (bs ++ [u]) i = u := by rw [← hl]; exact nth_append_at
          rw [this]
          exact ⟨u0, u1, hu⟩
        · rw [nth_append_left (by omega)]
          exact hbs i (by omega)
    obtain ⟨bs, hl, hbs⟩ := key n (Nat.le_refl _)
    exact ⟨bs, hl, hn, fun _ => ⟨b, off, ha, hb, hbs⟩⟩
  · exact ⟨List.replicate n 0, by simp, hn, fun h => absurd h hx⟩
theorem Bytes.below {w w' : World} {a : Option Addr} {n K : Nat} {bs : List Int} (h : Bytes w a n K bs) (hb : Below K w w') : Bytes w' a n K bs := by
  obtain ⟨h1, h2, h3⟩ := h
  refine ⟨h1, h2, fun hx => ?_⟩
  obtain ⟨b, off, ha, hbk, hc⟩ := h3 hx
  exact ⟨b, off, ha, hbk, fun i hi => by rw [hb.cell (p := ⟨b, off + i, none⟩) hbk]; exact hc i hi⟩
/-- The number of some bytes. -/
def numOf (bs : List Int) : Int := bs.foldl (fun v u => (31 * v + u) % 1000003) 0
theorem numOf_succ {bs : List Int} {k : Nat} (h : k < bs.length) : numOf (bs.take (k + 1)) = (31 * numOf (bs.take k) + nth bs k) % 1000003 := by
  rw [take_succ_nth h]
  simp [numOf]
theorem numOf_bounds (bs : List Int) : 0 ≤ numOf bs ∧ numOf bs ≤ 1000002 := by
  unfold numOf
  have : ∀ (bs : List Int) (v : Int), 0 ≤ v ∧ v ≤ 1000002 → 0 ≤ bs.foldl (fun v u => (31 * v + u) % 1000003) v ∧ bs.foldl (fun v u => (31 * v + u) % 1000003) v ≤ 1000002 := by
    intro bs
    induction bs with
    | nil => intro v h; exact h
    | cons b bs ih => intro v h; exact ih _ (by show 0 ≤ (31 * v + b) % 1000003 ∧ (31 * v + b) % 1000003 ≤ 1000002; omega)
  exact this bs 0 (by omega)

end Go.Proofs.Ytpjgidjkpcbniab

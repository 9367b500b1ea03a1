/- All parking functions and all sorted ones: the model's functions, by their contracts. -/
import Derived.Test.YtakadjhbomggbaaGreatSpecAt
import Derived.Test.YtakadjhbomggbaaGreatRows3
import Derived.Test.YtakadjhbomggbaaGreatPro
import Derived.Test.YtakadjhbomggbaaGreatMathG
namespace Go.Proofs.YtakadjhbomggbaaGreat
open Go.RowKit

/-- Those that go on a beginning with the first c choices of the next number. -/
def listTo (n k : Nat) (p : List Int) (c : Nat) : List (List Int) := (List.range c).flatMap fun (x : Nat) => listL n k (p ++ [(x : Int)])
theorem listTo_succ (n k : Nat) (p : List Int) (c : Nat) : listTo n k p (c + 1) = listTo n k p c ++ listL n k (p ++ [(c : Int)]) := by simp [listTo, List.range_succ]
theorem length_listL {n k : Nat} {p : List Int} (h : p.length + k = n) : (listL n k p).length = N p n := by rw [list_at k p h]; simp
theorem length_listTo {n k : Nat} {p : List Int} (h : p.length + (k + 1) = n) : ∀ c, (listTo n k p c).length = rkAtP p n c
  | 0 => rfl
  | c + 1 => by rw [listTo_succ, List.length_append, length_listTo h c, length_listL (by simp; omega), rkAtP_succ]
theorem N_le5 {p : List Int} {n : Nat} (h : n ≤ 5) : N p n ≤ 3125 := by
  unfold N
  refine Nat.le_trans (V_le _ n (by omega) _ (by omega)) ?_
  refine Nat.le_trans (Nat.pow_le_pow_left h _) ?_
  exact Nat.le_trans (Nat.pow_le_pow_right (by omega) (show n - p.length ≤ 5 by omega)) (by decide)
theorem rkAtP_le5 {p : List Int} {n : Nat} (hn : n ≤ 5) : ∀ j, j ≤ 5 → rkAtP p n j ≤ j * 3125
  | 0, _ => by simp [rkAtP, sumTo]
  | j + 1, h => by
    have := rkAtP_le5 (p := p) (n := n) hn j (by omega)
    have := N_le5 (p := p ++ [(j : Int)]) hn
    rw [rkAtP_succ]
    omega

set_option maxHeartbeats 4000000 in
theorem cnAll_any (n : Nat) (h5 : n ≤ 5) : ∀ (k m : Nat) (a : Option Addr) (cap : Nat) (p : List Int) (w : World), m + k = n → Has w a m cap p → Hid (∀ i, i < m → 0 ≤ nth p i) →
    Calls Tryz.prog 55 #[.slice a m cap, .int .i64 (n : Int)] w (PostRowsOnly w (listL n k p)) := by
  intro k
  induction k with
  | zero =>
    intro m a cap p w hmk h H0
    obtain rfl : m = n := by omega
    have hlen := h.len
    have hz : isPark p = true ↔ zpark p m := by
      have := isPark_zpark (xs := p) (by omega) (fun x hx => by
        obtain ⟨i, hi, rfl⟩ := mem_nth hx
        exact H0.out i (by omega))
      rw [hlen] at this
      exact this
    have hbe : ((m : Int) == (m : Int)) = true := by simp
    by_cases hp : isPark p = true
    · have HR : Hid (listL m 0 p = [p]) := hid (by simp only [listL]; rw [if_pos (hz.1 hp)])
      have HP := hid hp
      clear hz hp hlen
      go_enter Tryz.func55, Tryz.ntmps55
      go_wp2_with (go_at_call 71; refine (paParking_any _ _ _ _ _ h).mono ?_; rintro e w0 ⟨rfl, hb0⟩; rw [HP.out])
      refine (l1Own_any _ _ _ _ _ (h.below hb0 (Nat.le_refl _))).mono ?_
      rintro e w1 ⟨a1, cap1, rfl, hown1, hb1⟩
      have hown1' := hown1.mono hb0.size
      have hb01 := hb0.trans (hb1.mono hb0.size)
      have hlit := ownR_lit1 hown1' hb01.size
      have hba := hb01.alloc hb01.size (.cells #[.slice a1 m cap1] 31)
      go_wp2_with fail
      go_ret
      exact ⟨_, _, _, _, rfl, hlit, by rw [HR.out]; rfl, hba⟩
    · have HR : Hid (listL m 0 p = []) := hid (by simp only [listL]; rw [if_neg (fun h => hp (hz.2 h))])
      have HP := hid hp
      clear hz hp hlen
      go_enter Tryz.func55, Tryz.ntmps55
      go_wp2_with (go_at_call 71; refine (paParking_any _ _ _ _ _ h).mono ?_; rintro e w0 ⟨rfl, hb0⟩; rw [Bool.eq_false_iff.2 HP.out])
      go_ret
      exact ⟨_, _, _, _, rfl, OwnR.nil _ _, by rw [HR.out]; rfl, hb0⟩
  | succ k ih =>
    intro m a cap p w hmk h H0
    have IH := hid ih
    have hbe : ((m : Int) == (n : Int)) = false := by simp; omega
    have HLEN := hid h.len
    have HL := hid (fun c => length_listTo (n := n) (k := k) (p := p) (by rw [HLEN.out]; omega) c)
    have HR : Hid (listL n (k + 1) p = listTo n k p n) := hid rfl
    clear ih
    go_enter Tryz.func55, Tryz.ntmps55
    go_wp2_with fail
    go_loopw [5, 6] (fun o x wr => ∃ (c : Nat) (a' : Option Addr) (q cap' : Nat) (rs : List Rw), c ≤ n ∧ x = .int .i64 (c : Int) ∧ o = .slice a' q cap' ∧ OwnR wr w.heap.size a' q cap' rs ∧ Hid (numsOf rs = listTo n k p c) ∧ Below w.heap.size w wr) (fun _ x _ => n - (intOf x).toNat)
    case atStart => exact ⟨0, none, 0, 0, [], Nat.zero_le _, rfl, rfl, OwnR.nil _ _, hid rfl, Below.refl _ _⟩
    case round =>
      obtain ⟨c, a', q, cap', rs, hc, rfl, rfl, hown, HNU, hb⟩ := hrel
      by_cases hlt : c < n
      · have hq : q ≤ 15625 := by
          have h1 := numsOf_len hown
          rw [HNU.out, HL.out] at h1
          have := rkAtP_le5 (p := p) h5 c (by omega)
          omega
        have hh := h.below hb (Nat.le_refl _)
        have hszr := hb.size
        have HNN := hid (nth_snoc_nonneg (j := c) HLEN.out H0.out)
        go_wp2_with fail
        refine (l1Own_any _ _ _ _ _ hh).mono ?_
        rintro e w3 ⟨a3, cap3, rfl, hown3, hb3⟩
        go_wp2_with (at_builtin; refine wpList_append_int _ rfl _ _ rfl wr.heap.size _ _ _ _ _ rfl rfl hown3 (by omega) hb3.size ?_; intro a4 cap4 w4 hown4 hb4)
        have hb34 := hb3.trans hb4
        refine (IH.out (m + 1) _ _ _ _ (by omega) hown4.has HNN).mono ?_
        rintro e w5 ⟨a5, q5, cap5, rs5, rfl, hown5, hn5, hb5⟩
        have hb35 := hb34.trans (hb5.mono hb34.size)
        have HN5 := hid hn5
        have hq5 : q5 ≤ 3125 := by
          have h1 := numsOf_len hown5
          rw [hn5, length_listL (by simp [HLEN.out]; omega)] at h1
          have := N_le5 (p := p ++ [(c : Int)]) h5
          omega
        have hown5' := hown5.mono hb34.size
        clear hn5 hown3 hown4 hb3 hb4 hb5 hb34 hown5
        go_wp2_with (at_builtin; refine wpList_append_rowsAny wr w5 rfl _ _ rfl w.heap.size _ _ _ _ _ _ _ _ rfl rfl hown hb35 hown5' (by omega) hszr ?_; intro a6 q6 cap6 w6 hq6 hown6 hb6)
        go_roundw
        case rel =>
          refine ⟨c + 1, a6, q6, cap6, _, by omega, by go_num, rfl, hown6, hid ?_, (hb.trans (hb35.mono hszr)).trans hb6⟩
          rw [numsOf_app, HNU.out, HN5.out, listTo_succ]
        case measure => simp [intOf]; omega
      · obtain rfl : n = c := by omega
        go_wp2_with fail
        go_ret
        exact ⟨a', q, cap', rs, rfl, hown, by rw [HR.out, HNU.out], hb⟩

theorem allOf_yes {n : Nat} (h : inB (n : Int) 0 5 = true) : allOf n = (listL n n [], true) := by simp [allOf, h]
theorem allOf_no {n : Int} (h : ¬ inB n 0 5 = true) : allOf n = ([], false) := by simp [allOf, h]

set_option maxHeartbeats 400000 in
theorem specAll_any (n : Int) (w : World) : Calls Tryz.prog 28 #[.int .i64 n] w (PostRows w (allOf n)) := by
  by_cases hg : inB n 0 5 = true
  · obtain ⟨m, rfl⟩ : ∃ m : Nat, n = (m : Int) := ⟨n.toNat, by have := inB_iff.1 hg; omega⟩
    have hm : m ≤ 5 := by have := inB_iff.1 hg; omega
    have HA := hid (allOf_yes hg)
    have HG := hid hg
    clear hg
    go_enter Tryz.func28, Tryz.ntmps28
    go_wp2_with (go_at_call 27; refine (l1In_any _ _ _ _).mono ?_; rintro e w' ⟨rfl, rfl⟩; rw [HG.out])
    refine (cnAll_any m hm m 0 none 0 [] _ (by omega) (Has.nilAt none (by unfold maxLen; omega)) (hid (fun i hi => by omega))).mono ?_
    rintro e w2 ⟨a2, q2, cap2, rs2, rfl, hown2, hn2, hb2⟩
    go_wp2_with fail
    go_ret2
    exact postRows HA.out hown2 hn2 hb2
  · have HA := hid (allOf_no hg)
    have HG := hid hg
    clear hg
    go_enter Tryz.func28, Tryz.ntmps28
    go_wp2_with (go_at_call 27; refine (l1In_any _ _ _ _).mono ?_; rintro e w' ⟨rfl, rfl⟩; rw [Bool.eq_false_iff.2 HG.out])
    go_ret2
    exact postRows_no HA.out (Below.refl _ _)

/-- The least choice behind a beginning. -/
def lastOf (p : List Int) : Int := nth p (p.length - 1)
/-- Those that do not fall and go on a beginning with the first c choices. -/
def sortTo (k : Nat) (p : List Int) (c : Nat) : List (List Int) := (upFrom (lastOf p) c).flatMap fun x => sortL k (p ++ [x])
theorem sortTo_succ (k : Nat) (p : List Int) (c : Nat) : sortTo k p (c + 1) = sortTo k p c ++ sortL k (p ++ [lastOf p + c]) := by
  simp [sortTo, upFrom_snoc]
theorem lastOf_snoc (p : List Int) (x : Int) : lastOf (p ++ [x]) = x := by
  unfold lastOf
  rw [List.length_append, List.length_singleton, Nat.add_sub_cancel, nth_append_at]
theorem length_sortL : ∀ (k : Nat) (p : List Int), p.length + k ≤ 6 → 0 ≤ lastOf p → (sortL k p).length ≤ 7 ^ k ∧ ∀ j c, k = j + 1 → c ≤ 7 → (sortTo j p c).length ≤ c * 7 ^ j
  | 0, p, _, _ => ⟨by simp [sortL], fun j c h => by omega⟩
  | k + 1, p, h, h0 => by
    have hto : ∀ c, c ≤ 7 → (sortTo k p c).length ≤ c * 7 ^ k := by
      intro c
      induction c with
      | zero => intro _; simp [sortTo, upFrom]
      | succ c ih =>
        intro hc
        have h1 := ih (by omega)
        have h2 := (length_sortL k (p ++ [lastOf p + c]) (by simp; omega) (by rw [lastOf_snoc]; omega)).1
        rw [sortTo_succ, List.length_append, Nat.add_mul]
        omega
    refine ⟨?_, fun j c hj hc => by cases hj; exact hto c hc⟩
    have h1 := hto ((p.length : Int) + 1 - lastOf p).toNat (by omega)
    have h2 := Nat.mul_le_mul_right (7 ^ k) (show ((p.length : Int) + 1 - lastOf p).toNat ≤ 7 by omega)
    show (sortTo k p ((p.length : Int) + 1 - lastOf p).toNat).length ≤ 7 ^ (k + 1)
    rw [Nat.pow_succ]
    omega
theorem pow7 : ∀ k, k < 7 → 7 ^ k ≤ 117649 := by decide +kernel
theorem nth_last_le {p : List Int} {m : Nat} (h : p.length = m) : lastOf p = nth p (m - 1) := by unfold lastOf; rw [h]
theorem lastOf_none {p : List Int} (h : p.length = 0) : lastOf p = 0 := by
  have : p = [] := List.eq_nil_of_length_eq_zero h
  subst this
  rfl

theorem allSortedOf_yes' {n : Nat} (h : inB (n : Int) 0 6 = true) : allSortedOf n = (sortL n [], true) := by simp [allSortedOf, h]
theorem allSortedOf_no' {n : Int} (h : ¬ inB n 0 6 = true) : allSortedOf n = ([], false) := by simp [allSortedOf, h]

end Go.Proofs.YtakadjhbomggbaaGreat

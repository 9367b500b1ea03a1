/- All slope parking functions and all walks: the model's functions, by their contracts. -/
import Derived.Test.YtfkejkkplafciadSpecSl
import Derived.Test.YtfkejkkplafciadPro
namespace Go.Proofs.Ytfkejkkplafciad
open Go.RowKit

theorem zeros_snoc (p : List Int) (j : Nat) : p ++ List.replicate (j + 1) 0 = p ++ List.replicate j 0 ++ [0] := by
  rw [List.append_assoc, ← List.replicate_succ']

set_option maxHeartbeats 800000 in
theorem slFits_any (a : Option Addr) (m cap : Nat) (p : List Int) (n q : Nat) (w : World) (h : Has w a m cap p) (hs : Hid (slN n q = true)) (hm : m ≤ n) (h0 : Hid (∀ x ∈ p, 0 ≤ x)) :
    Calls Try.prog 99 #[.slice a m cap, .int .i64 (n : Int), .int .i64 (q : Int)] w fun e w' => e = .returned (.bool (decide (zf (shp (bnds n q)) p))) ∧ Below w.heap.size w w' := by
  obtain ⟨⟨n0, n1⟩, hq, -⟩ := slN_iff.1 hs.out
  have HR : Hid (goodSl (p ++ List.replicate (n - m) 0) (q : Int) = decide (zf (shp (bnds n q)) p)) := hid (by
    have hl : (p ++ List.replicate (n - m) (0 : Int)).length = n := by simp [h.len]; omega
    have hz := zf_zeros (S := shp (bnds n q)) (p := p) (by simp only [shp, length_bnds]; rw [h.len]; exact hm)
    simp only [show (shp (bnds n q)).n = n from length_bnds n q, h.len] at hz
    rw [goodSl, hl, Int.toNat_natCast, slB_nat, hs.out, Bool.true_and, Bool.eq_iff_iff, decide_eq_true_eq, und_iff (bnds_bnd n q) (by rw [hl, length_bnds]), hz]
    refine ⟨fun hh => hh.2, fun hh => ⟨fun x hx => ?_, hh⟩⟩
    rcases List.mem_append.1 hx with hx | hx
    · exact h0.out x hx
    · rw [(List.mem_replicate.1 hx).2]; exact Int.le_refl _)
  have HZS := hid (fun j => zeros_snoc p j)
  have HP : Hid (p ++ List.replicate 0 0 = p) := hid (by simp)
  go_enter Try.func99, Try.ntmps99
  go_wp2_with fail
  refine (l1Own_any _ _ _ _ _ h).mono ?_
  rintro e w1 ⟨a1, cap1, rfl, hown1, hb1⟩
  go_wp2_with fail
  go_loopw [7] (fun o wr => ∃ (j k : Nat) (a' : Option Addr) (cap' : Nat), k = m + j ∧ k ≤ n ∧ o = .slice a' k cap' ∧ Own wr w.heap.size a' k cap' (p ++ List.replicate j 0) ∧ Below w.heap.size w wr) (fun o _ => n - (match o with | .slice _ k _ => k | _ => 0))
  case atStart => exact ⟨0, m, a1, cap1, rfl, hm, rfl, by rw [HP.out]; exact hown1, hb1⟩
  case round =>
    clear hown1 hb1
    obtain ⟨j, k, a', cap', hkj, hk, rfl, hown, hb⟩ := hrel
    have HKJ := hid hkj
    clear hkj
    by_cases hlt : k < n
    · have hsz := hb.size
      have HZ := hid (HZS.out j)
      go_wp2_with (at_builtin; refine wpList_append_int _ rfl _ _ rfl w.heap.size _ _ _ _ _ rfl rfl hown (by omega) hsz ?_; intro a4 cap4 w4 hown4 hb4)
      go_roundw
      case rel => exact ⟨j + 1, k + 1, a4, cap4, by have := HKJ.out; omega, by omega, rfl, by rw [HZ.out]; exact hown4, hb.trans hb4⟩
      case measure => simp; omega
    · have HJ : Hid (p ++ List.replicate j 0 = p ++ List.replicate (n - m) 0) := hid (by have := HKJ.out; rw [show j = n - m by omega])
      rw [HJ.out] at hown
      go_wp2_with fail
      refine (slGood_any _ _ _ _ _ _ hown.has).mono ?_
      rintro e w2 ⟨rfl, hb2⟩
      rw [HR.out]
      go_wp2_with fail
      go_ret
      exact ⟨rfl, hb.trans (hb2.mono hb.size)⟩

theorem snoc_betweenA {ys : List Int} {k q x : Nat} (hl : ys.length = k) (h : ∀ i, i < k → 0 ≤ nth ys i ∧ nth ys i < (q : Int)) (hx : x < q) : ∀ i, i < k + 1 → 0 ≤ nth (ys ++ [(x : Int)]) i ∧ nth (ys ++ [(x : Int)]) i < (q : Int) := by
  intro i hi
  by_cases e : i = k
  · subst e
    rw [← hl, nth_append_at]
    omega
  · rw [nth_append_left (by omega)]
    exact h i (by omega)
/-- The first c choices behind a beginning. -/
def modTo (bs : List Int) (a : Nat) (wk : Bool) (k : Nat) (p : List Int) (lo : Int) (c : Nat) : List (List Int) := (upFrom lo c).flatMap fun x => modL bs a wk k (p ++ [x])
theorem modTo_succ (bs : List Int) (a : Nat) (wk : Bool) (k : Nat) (p : List Int) (lo : Int) (c : Nat) : modTo bs a wk k p lo (c + 1) = modTo bs a wk k p lo c ++ modL bs a wk k (p ++ [lo + c]) := by
  simp [modTo, upFrom_snoc]
/-- From which number on the next choice goes. -/
def fromN (wk : Bool) (p : List Int) : Int := if wk && decide (0 < p.length) then nth p (p.length - 1) else 0
theorem modL_eq {bs : List Int} {a k : Nat} {wk : Bool} {p : List Int} (hz : zf (shp bs) p) : modL bs a wk (k + 1) p = modTo bs a wk k p (fromN wk p) ((a : Int) - fromN wk p).toNat := by
  rw [modL, if_pos hz]
  rfl
theorem modL_none {bs : List Int} {a k : Nat} {wk : Bool} {p : List Int} (hz : ¬ zf (shp bs) p) : modL bs a wk k p = [] := by
  cases k with
  | zero => simp [modL, hz]
  | succ k => rw [modL, if_neg hz]
theorem fromN_between {wk : Bool} {p : List Int} {m q : Nat} (hl : p.length = m) (h : ∀ i, i < m → 0 ≤ nth p i ∧ nth p i < (q : Int)) (hq : 1 ≤ q) : 0 ≤ fromN wk p ∧ fromN wk p < (q : Int) := by
  unfold fromN
  split
  · rename_i hc
    simp at hc
    exact h _ (by omega)
  · omega
theorem length_modL {bs : List Int} {a : Nat} {wk : Bool} : ∀ (k : Nat) (p : List Int), (∀ i, i < p.length → 0 ≤ nth p i) → (modL bs a wk k p).length ≤ a ^ k
  | 0, p, _ => by
    simp only [modL]
    split <;> simp
  | k + 1, p, h0 => by
    by_cases hz : zf (shp bs) p
    · rw [modL_eq hz]
      have hf0 : 0 ≤ fromN wk p := by
        unfold fromN
        split
        · rename_i hc
          simp at hc
          exact h0 _ (by omega)
        · omega
      have key : ∀ c, (modTo bs a wk k p (fromN wk p) c).length ≤ c * a ^ k := by
        intro c
        induction c with
        | zero => simp [modTo, upFrom]
        | succ c ih =>
          rw [modTo_succ, List.length_append]
          have := length_modL k (p ++ [fromN wk p + c]) (fun i hi => by
            simp at hi
            by_cases e : i = p.length
            · subst e; rw [nth_append_at]; omega
            · rw [nth_append_left (by omega)]; exact h0 i (by omega)) (bs := bs) (wk := wk) (a := a)
          rw [Nat.add_mul, Nat.one_mul]
          omega
      refine Nat.le_trans (key _) ?_
      rw [Nat.pow_succ, Nat.mul_comm]
      exact Nat.mul_le_mul_left _ (by omega)
    · rw [modL_none hz]
      exact Nat.zero_le _
theorem length_modTo {bs : List Int} {a : Nat} {wk : Bool} {k : Nat} {p : List Int} {lo : Int} (h0 : ∀ i, i < p.length → 0 ≤ nth p i) (hlo : 0 ≤ lo) : ∀ c, (modTo bs a wk k p lo c).length ≤ c * a ^ k
  | 0 => by simp [modTo, upFrom]
  | c + 1 => by
    rw [modTo_succ, List.length_append]
    have h1 := length_modTo (bs := bs) (a := a) (wk := wk) (k := k) h0 hlo c
    have h2 := length_modL k (p ++ [lo + c]) (fun i hi => by
      simp at hi
      by_cases e : i = p.length
      · subst e; rw [nth_append_at]; omega
      · rw [nth_append_left (by omega)]; exact h0 i (by omega)) (bs := bs) (wk := wk) (a := a)
    rw [Nat.add_mul, Nat.one_mul]
    omega

set_option maxRecDepth 100000 in
set_option maxHeartbeats 2000000 in
theorem slAll_any (n q : Nat) (wk : Bool) (hs : Hid (slN n q = true)) (hM : q ^ n ≤ 400000) : ∀ (k m : Nat) (a : Option Addr) (cap : Nat) (p : List Int) (w : World), m + k = n → Has w a m cap p → Hid (∀ i, i < m → 0 ≤ nth p i ∧ nth p i < (q : Int)) →
    Calls Try.prog 66 #[.slice a m cap, .int .i64 (n : Int), .int .i64 (q : Int), .bool wk] w (PostRowsOnly w (modL (bnds n q) q wk k p)) := by
  obtain ⟨⟨n0, n1⟩, ⟨q0, q1⟩, -⟩ := slN_iff.1 hs.out
  intro k
  induction k with
  | zero =>
    intro m a cap p w hmk h H0
    obtain rfl : m = n := by omega
    have H0' : Hid (∀ x ∈ p, 0 ≤ x) := hid (fun x hx => by obtain ⟨i, hi, rfl⟩ := mem_nth hx; exact (H0.out i (by rw [← h.len]; exact hi)).1)
    have hbe : ((m : Int) == (m : Int)) = true := by simp
    by_cases hz : zf (shp (bnds m q)) p
    · have HR : Hid (modL (bnds m q) q wk 0 p = [p]) := hid (by rw [modL, if_pos hz])
      have HD : Hid (decide (zf (shp (bnds m q)) p) = true) := hid (by simp [hz])
      clear hz
      go_enter Try.func66, Try.ntmps66
      go_wp2_with fail
      refine (slFits_any _ _ _ _ m q _ h hs (by omega) H0').mono ?_
      rw [HD.out]
      rintro e w0 ⟨rfl, hb0⟩
      go_wp2_with fail
      refine (l1Own_any _ _ _ _ _ (h.below hb0 (Nat.le_refl _))).mono ?_
      rintro e w1 ⟨a1, cap1, rfl, hown1, hb1⟩
      have hown1' := hown1.mono hb0.size
      have hb01 := hb0.trans (hb1.mono hb0.size)
      have hlit := ownR_lit1 hown1' hb01.size
      have hba := hb01.alloc hb01.size (.cells #[.slice a1 m cap1] 26)
      go_wp2_with fail
      go_ret
      exact ⟨_, _, _, _, rfl, hlit, by rw [HR.out]; rfl, hba⟩
    · have HR : Hid (modL (bnds m q) q wk 0 p = []) := hid (by rw [modL, if_neg hz])
      have HD : Hid (decide (zf (shp (bnds m q)) p) = false) := hid (by simp [hz])
      clear hz
      go_enter Try.func66, Try.ntmps66
      go_wp2_with fail
      refine (slFits_any _ _ _ _ m q _ h hs (by omega) H0').mono ?_
      rw [HD.out]
      rintro e w0 ⟨rfl, hb0⟩
      go_wp2_with fail
      go_ret
      exact ⟨_, _, _, _, rfl, OwnR.nil _ _, by rw [HR.out]; rfl, hb0⟩
  | succ k ih =>
    intro m a cap p w hmk h H0
    have IH := hid ih
    have hbe : ((m : Int) == (n : Int)) = false := by simp; omega
    have HLEN := hid h.len
    have H0' : Hid (∀ x ∈ p, 0 ≤ x) := hid (fun x hx => by obtain ⟨i, hi, rfl⟩ := mem_nth hx; exact (H0.out i (by rw [← h.len]; exact hi)).1)
    clear ih
    by_cases hz : zf (shp (bnds n q)) p
    · obtain ⟨f0, f1⟩ := fromN_between (wk := wk) h.len H0.out q0
      obtain ⟨lo, hlo⟩ : ∃ lo : Nat, fromN wk p = (lo : Int) := ⟨(fromN wk p).toNat, by omega⟩
      have HLO := hid hlo
      have hlq : lo < q := by omega
      have HR : Hid (modL (bnds n q) q wk (k + 1) p = modTo (bnds n q) q wk k p (lo : Int) (q - lo)) := hid (by rw [modL_eq hz, hlo]; congr 1; omega)
      have HD : Hid (decide (zf (shp (bnds n q)) p) = true) := hid (by simp [hz])
      have hpk : q ^ k ≤ 400000 := Nat.le_trans (Nat.pow_le_pow_right (by omega) (by omega)) hM
      have hpk1 : q * q ^ k ≤ 400000 := by rw [Nat.mul_comm, ← Nat.pow_succ]; exact Nat.le_trans (Nat.pow_le_pow_right (by omega) (by omega)) hM
      have HLT : Hid (∀ c, c ≤ q → (modTo (bnds n q) q wk k p (lo : Int) c).length ≤ 400000) := hid (fun c hc => by
        have h1 := length_modTo (bs := bnds n q) (a := q) (wk := wk) (k := k) (p := p) (lo := (lo : Int)) (fun i hi => (H0.out i (by rw [← HLEN.out]; exact hi)).1) (by omega) c
        have h2 := Nat.mul_le_mul_right (q ^ k) hc
        omega)
      have HLL : Hid (∀ y : Nat, (modL (bnds n q) q wk k (p ++ [(y : Int)])).length ≤ 400000) := hid (fun y => by
        have := length_modL (bs := bnds n q) (a := q) (wk := wk) k (p ++ [(y : Int)]) (fun i hi => by
          simp at hi
          by_cases e : i = p.length
          · subst e; rw [nth_append_at]; omega
          · rw [nth_append_left (by omega)]; exact (H0.out i (by rw [← HLEN.out]; omega)).1)
        omega)
      have HMS := hid (fun c => modTo_succ (bnds n q) q wk k p (lo : Int) c)
      clear hz hlo f0 f1 hpk hpk1
      cases wk with
      | false =>
        have HLV : Hid ((lo : Int) = 0) := hid (by rw [← HLO.out]; simp [fromN])
        go_enter Try.func66, Try.ntmps66
        go_wp2_with fail
        refine (slFits_any _ _ _ _ n q _ h hs (by omega) H0').mono ?_
        rw [HD.out]
        rintro e w0 ⟨rfl, hb0⟩
        go_wp2_with fail
        go_loopw [10, 11] (fun o x wr => ∃ (c : Nat) (a' : Option Addr) (r cap' : Nat) (rs : List Rw), c ≤ q - lo ∧ x = .int .i64 ((lo : Int) + (c : Int)) ∧ o = .slice a' r cap' ∧ OwnR wr w.heap.size a' r cap' rs ∧ Hid (numsOf rs = modTo (bnds n q) q false k p (lo : Int) c) ∧ Below w.heap.size w wr) (fun _ x _ => q - (intOf x).toNat)
        case atStart => exact ⟨0, none, 0, 0, [], Nat.zero_le _, by rw [HLV.out]; rfl, rfl, OwnR.nil _ _, hid rfl, hb0⟩
        case round =>
          clear hb0
          obtain ⟨c, a', r, cap', rs, hc, rfl, rfl, hown, HNU, hb⟩ := hrel
          by_cases hlt : lo + c < q
          · have hr : r ≤ 400000 := by
              have h1 := numsOf_len hown
              rw [HNU.out] at h1
              have := HLT.out c (by omega)
              omega
            have hh := h.below hb (Nat.le_refl _)
            have hszr := hb.size
            have HNN := hid (snoc_betweenA HLEN.out H0.out hlt)
            have hcq : (lo : Int) + (c : Int) < (q : Int) := by omega
            go_wp2_with fail
            refine (l1Own_any _ _ _ _ _ hh).mono ?_
            rintro e w3 ⟨a3, cap3, rfl, hown3, hb3⟩
            go_wp2_with (at_builtin; refine wpList_append_int _ rfl _ _ rfl wr.heap.size _ _ _ _ _ rfl rfl hown3 (by omega) hb3.size ?_; intro a4 cap4 w4 hown4 hb4)
            have hb34 := hb3.trans hb4
            have HCAST : Hid ((lo : Int) + (c : Int) = ((lo + c : Nat) : Int)) := hid (by omega)
            rw [HCAST.out] at hown4
            refine (IH.out (m + 1) _ _ _ _ (by omega) hown4.has HNN).mono ?_
            rintro e w5 ⟨a5, r5, cap5, rs5, rfl, hown5, hn5, hb5⟩
            have hb35 := hb34.trans (hb5.mono hb34.size)
            have HN5 := hid hn5
            have hr5 : r5 ≤ 400000 := by
              have h1 := numsOf_len hown5
              rw [hn5] at h1
              have := HLL.out (lo + c)
              omega
            have hown5' := hown5.mono hb34.size
            clear hn5 hown3 hown4 hb3 hb4 hb5 hb34 hown5
            go_wp2_with (at_builtin; refine wpList_append_rowsAny wr w5 rfl _ _ rfl w.heap.size _ _ _ _ _ _ _ _ rfl rfl hown hb35 hown5' (by omega) hszr ?_; intro a6 r6 cap6 w6 hr6 hown6 hb6)
            go_roundw
            case rel =>
              refine ⟨c + 1, a6, r6, cap6, _, by omega, by go_num, rfl, hown6, hid ?_, (hb.trans (hb35.mono hszr)).trans hb6⟩
              rw [numsOf_app, HNU.out, HN5.out, HMS.out, HCAST.out]
            case measure => simp [intOf]; omega
          · have HE : Hid (modL (bnds n q) q false (k + 1) p = modTo (bnds n q) q false k p (lo : Int) c) := hid (by rw [HR.out]; congr 1; omega)
            have hcq : ¬ (lo : Int) + (c : Int) < (q : Int) := by omega
            go_wp2_with fail
            go_ret
            exact ⟨a', r, cap', rs, rfl, hown, by rw [HE.out, HNU.out], hb⟩
      | true =>
        by_cases hm0 : 0 < m
        · have HLV : Hid ((lo : Int) = nth p (m - 1)) := hid (by rw [← HLO.out, fromN, HLEN.out]; simp [hm0])
          obtain ⟨bk, off, rfl, hbb, hcc⟩ := h.2.2.2.2 hm0
          have hv1 : ((m : Int) - 1).toNat = m - 1 := by omega
          have hv0 : (0 : Int) ≤ (m : Int) - 1 := by omega
          have hv2 : (m : Int) - 1 < (m : Int) := by omega
          have hm0' : (0 : Int) < (m : Int) := by omega
          go_enter Try.func66, Try.ntmps66
          go_wp2_with fail
          refine (slFits_any _ _ _ _ n q _ h hs (by omega) H0').mono ?_
          rw [HD.out]
          rintro e w0 ⟨rfl, hb0⟩
          have hck0 : w0.cell? ⟨bk, off + (m - 1), none⟩ = some (.int .i64 (nth p (m - 1))) := by rw [hb0.cell (p := ⟨bk, off + (m - 1), none⟩) hbb]; exact hcc (m - 1) (by omega)
          clear hcc
          go_wp2_with fail
          go_loopw [10, 11] (fun o x wr => ∃ (c : Nat) (a' : Option Addr) (r cap' : Nat) (rs : List Rw), c ≤ q - lo ∧ x = .int .i64 ((lo : Int) + (c : Int)) ∧ o = .slice a' r cap' ∧ OwnR wr w.heap.size a' r cap' rs ∧ Hid (numsOf rs = modTo (bnds n q) q true k p (lo : Int) c) ∧ Below w.heap.size w wr) (fun _ x _ => q - (intOf x).toNat)
          case atStart => exact ⟨0, none, 0, 0, [], Nat.zero_le _, by rw [HLV.out]; simp, rfl, OwnR.nil _ _, hid rfl, hb0⟩
          case round =>
            clear hb0
            obtain ⟨c, a', r, cap', rs, hc, rfl, rfl, hown, HNU, hb⟩ := hrel
            by_cases hlt : lo + c < q
            · have hr : r ≤ 400000 := by
                have h1 := numsOf_len hown
                rw [HNU.out] at h1
                have := HLT.out c (by omega)
                omega
              have hh := h.below hb (Nat.le_refl _)
              have hszr := hb.size
              have HNN := hid (snoc_betweenA HLEN.out H0.out hlt)
              have hcq : (lo : Int) + (c : Int) < (q : Int) := by omega
              go_wp2_with fail
              refine (l1Own_any _ _ _ _ _ hh).mono ?_
              rintro e w3 ⟨a3, cap3, rfl, hown3, hb3⟩
              go_wp2_with (at_builtin; refine wpList_append_int _ rfl _ _ rfl wr.heap.size _ _ _ _ _ rfl rfl hown3 (by omega) hb3.size ?_; intro a4 cap4 w4 hown4 hb4)
              have hb34 := hb3.trans hb4
              have HCAST : Hid ((lo : Int) + (c : Int) = ((lo + c : Nat) : Int)) := hid (by omega)
              rw [HCAST.out] at hown4
              refine (IH.out (m + 1) _ _ _ _ (by omega) hown4.has HNN).mono ?_
              rintro e w5 ⟨a5, r5, cap5, rs5, rfl, hown5, hn5, hb5⟩
              have hb35 := hb34.trans (hb5.mono hb34.size)
              have HN5 := hid hn5
              have hr5 : r5 ≤ 400000 := by
                have h1 := numsOf_len hown5
                rw [hn5] at h1
                have := HLL.out (lo + c)
                omega
              have hown5' := hown5.mono hb34.size
              clear hn5 hown3 hown4 hb3 hb4 hb5 hb34 hown5
              go_wp2_with (at_builtin; refine wpList_append_rowsAny wr w5 rfl _ _ rfl w.heap.size _ _ _ _ _ _ _ _ rfl rfl hown hb35 hown5' (by omega) hszr ?_; intro a6 r6 cap6 w6 hr6 hown6 hb6)
              go_roundw
              case rel =>
                refine ⟨c + 1, a6, r6, cap6, _, by omega, by go_num, rfl, hown6, hid ?_, (hb.trans (hb35.mono hszr)).trans hb6⟩
                rw [numsOf_app, HNU.out, HN5.out, HMS.out, HCAST.out]
              case measure => simp [intOf]; omega
            · have HE : Hid (modL (bnds n q) q true (k + 1) p = modTo (bnds n q) q true k p (lo : Int) c) := hid (by rw [HR.out]; congr 1; omega)
              have hcq : ¬ (lo : Int) + (c : Int) < (q : Int) := by omega
              go_wp2_with fail
              go_ret
              exact ⟨a', r, cap', rs, rfl, hown, by rw [HE.out, HNU.out], hb⟩
        · have HLV : Hid ((lo : Int) = 0) := hid (by rw [← HLO.out, fromN, HLEN.out]; simp [hm0])
          have hm0' : ¬ (0 : Int) < (m : Int) := by omega
          go_enter Try.func66, Try.ntmps66
          go_wp2_with fail
          refine (slFits_any _ _ _ _ n q _ h hs (by omega) H0').mono ?_
          rw [HD.out]
          rintro e w0 ⟨rfl, hb0⟩
          go_wp2_with fail
          go_loopw [10, 11] (fun o x wr => ∃ (c : Nat) (a' : Option Addr) (r cap' : Nat) (rs : List Rw), c ≤ q - lo ∧ x = .int .i64 ((lo : Int) + (c : Int)) ∧ o = .slice a' r cap' ∧ OwnR wr w.heap.size a' r cap' rs ∧ Hid (numsOf rs = modTo (bnds n q) q true k p (lo : Int) c) ∧ Below w.heap.size w wr) (fun _ x _ => q - (intOf x).toNat)
          case atStart => exact ⟨0, none, 0, 0, [], Nat.zero_le _, by rw [HLV.out]; rfl, rfl, OwnR.nil _ _, hid rfl, hb0⟩
          case round =>
            clear hb0
            obtain ⟨c, a', r, cap', rs, hc, rfl, rfl, hown, HNU, hb⟩ := hrel
            by_cases hlt : lo + c < q
            · have hr : r ≤ 400000 := by
                have h1 := numsOf_len hown
                rw [HNU.out] at h1
                have := HLT.out c (by omega)
                omega
              have hh := h.below hb (Nat.le_refl _)
              have hszr := hb.size
              have HNN := hid (snoc_betweenA HLEN.out H0.out hlt)
              have hcq : (lo : Int) + (c : Int) < (q : Int) := by omega
              go_wp2_with fail
              refine (l1Own_any _ _ _ _ _ hh).mono ?_
              rintro e w3 ⟨a3, cap3, rfl, hown3, hb3⟩
              go_wp2_with (at_builtin; refine wpList_append_int _ rfl _ _ rfl wr.heap.size _ _ _ _ _ rfl rfl hown3 (by omega) hb3.size ?_; intro a4 cap4 w4 hown4 hb4)
              have hb34 := hb3.trans hb4
              have HCAST : Hid ((lo : Int) + (c : Int) = ((lo + c : Nat) : Int)) := hid (by omega)
              rw [HCAST.out] at hown4
              refine (IH.out (m + 1) _ _ _ _ (by omega) hown4.has HNN).mono ?_
              rintro e w5 ⟨a5, r5, cap5, rs5, rfl, hown5, hn5, hb5⟩
              have hb35 := hb34.trans (hb5.mono hb34.size)
              have HN5 := hid hn5
              have hr5 : r5 ≤ 400000 := by
                have h1 := numsOf_len hown5
                rw [hn5] at h1
                have := HLL.out (lo + c)
                omega
              have hown5' := hown5.mono hb34.size
              clear hn5 hown3 hown4 hb3 hb4 hb5 hb34 hown5
              go_wp2_with (at_builtin; refine wpList_append_rowsAny wr w5 rfl _ _ rfl w.heap.size _ _ _ _ _ _ _ _ rfl rfl hown hb35 hown5' (by omega) hszr ?_; intro a6 r6 cap6 w6 hr6 hown6 hb6)
              go_roundw
              case rel =>
                refine ⟨c + 1, a6, r6, cap6, _, by omega, by go_num, rfl, hown6, hid ?_, (hb.trans (hb35.mono hszr)).trans hb6⟩
                rw [numsOf_app, HNU.out, HN5.out, HMS.out, HCAST.out]
              case measure => simp [intOf]; omega
            · have HE : Hid (modL (bnds n q) q true (k + 1) p = modTo (bnds n q) q true k p (lo : Int) c) := hid (by rw [HR.out]; congr 1; omega)
              have hcq : ¬ (lo : Int) + (c : Int) < (q : Int) := by omega
              go_wp2_with fail
              go_ret
              exact ⟨a', r, cap', rs, rfl, hown, by rw [HE.out, HNU.out], hb⟩
    · have HR : Hid (modL (bnds n q) q wk (k + 1) p = []) := hid (modL_none hz)
      have HD : Hid (decide (zf (shp (bnds n q)) p) = false) := hid (by simp [hz])
      clear hz
      go_enter Try.func66, Try.ntmps66
      go_wp2_with fail
      refine (slFits_any _ _ _ _ n q _ h hs (by omega) H0').mono ?_
      rw [HD.out]
      rintro e w0 ⟨rfl, hb0⟩
      go_wp2_with fail
      go_ret
      exact ⟨_, _, _, _, rfl, OwnR.nil _ _, by rw [HR.out]; rfl, hb0⟩
theorem allSl_yes {m q : Nat} (hs : slN m q = true) (h : q ^ (m - 1) ≤ 700) : allSlOf m q = (allB' (bnds m q), true) := by
  simp [allSlOf, slB_nat, hs, h]
theorem allSl_no1 {n a : Int} (h : ¬ slB n a = true) : allSlOf n a = ([], false) := by simp [allSlOf, h]
theorem allSl_no2 {m q : Nat} (h : ¬ q ^ (m - 1) ≤ 700) : allSlOf m q = ([], false) := by
  simp [allSlOf, h]
theorem pow_all : ∀ m, m < 7 → ∀ q, q < 14 → 1 ≤ m → q ^ (m - 1) ≤ 700 → q ^ m ≤ 400000 := by decide +kernel
theorem pow_walk : ∀ m, m < 7 → ∀ q, q < 14 → slN m q = true → cntWkN m q ≤ 700 → q ^ m ≤ 400000 := by decide +kernel

set_option maxHeartbeats 800000 in
theorem specAllSl_any (n a : Int) (w : World) : Calls Try.prog 17 #[.int .i64 n, .int .i64 a] w (PostRows w (allSlOf n a)) := by
  by_cases h1 : slB n a = true
  · have H1 := hid h1
    obtain ⟨m, q, rfl, rfl, hs⟩ := slB_iff.1 h1
    obtain ⟨⟨n0, n1⟩, ⟨q0, q1⟩, -⟩ := slN_iff.1 hs
    have HPW := hid (fun w => slPower_at q (m - 1) (q : Int) ((m : Int) - 1) w rfl (by omega) (by omega) (by omega))
    have HS := hid hs
    by_cases h7 : q ^ (m - 1) ≤ 700
    · have HA := hid (allSl_yes hs h7)
      have hM := pow_all m (by omega) q (by omega) n0 h7
      have HE : Hid (modL (bnds m q) q false m [] = allB' (bnds m q)) := hid (modL_allB q0)
      have hnl : ¬ (700 : Int) < ((q ^ (m - 1) : Nat) : Int) := by omega
      have HC := hid (slAll_any m q false HS hM m 0 none 0 [] w (by omega) (Has.nilAt none (by unfold maxLen; omega)) (hid (fun i hi => by omega)))
      clear h1 hs hM h7
      generalize q ^ (m - 1) = pw at *
      go_enter Try.func17, Try.ntmps17
      go_wp2_with (first | (go_at_call 53; refine (slIs_any _ _ _).mono ?_; rintro e w' ⟨rfl, rfl⟩; rw [H1.out]) | (go_at_call 55; refine (HPW.out _).mono ?_; rintro e w' ⟨rfl, rfl⟩))
      refine HC.out.mono ?_
      rintro e w2 ⟨a2, q2, cap2, rs2, rfl, hown2, hn2, hb2⟩
      go_wp2_with fail
      go_ret2
      exact postRows HA.out hown2 (by rw [hn2, HE.out]) hb2
    · have HA := hid (allSl_no2 h7)
      have hnl : (700 : Int) < ((q ^ (m - 1) : Nat) : Int) := by omega
      clear h1 hs h7
      generalize q ^ (m - 1) = pw at *
      go_enter Try.func17, Try.ntmps17
      go_wp2_with (first | (go_at_call 53; refine (slIs_any _ _ _).mono ?_; rintro e w' ⟨rfl, rfl⟩; rw [H1.out]) | (go_at_call 55; refine (HPW.out _).mono ?_; rintro e w' ⟨rfl, rfl⟩))
      go_ret2
      exact postRows_no HA.out (Below.refl _ _)
  · have HA := hid (allSl_no1 h1)
    have H1 := hid h1
    clear h1
    go_enter Try.func17, Try.ntmps17
    go_wp2_with (go_at_call 53; refine (slIs_any _ _ _).mono ?_; rintro e w' ⟨rfl, rfl⟩; rw [Bool.eq_false_iff.2 H1.out])
    go_ret2
    exact postRows_no HA.out (Below.refl _ _)

theorem allWk_yes {m q : Nat} (hs : slN m q = true) (h : cntWkN m q ≤ 700) : allWkOf m q = (allW (bnds m q), true) := by
  simp [allWkOf, slB_nat, hs, h]
theorem allWk_no1 {n a : Int} (h : ¬ slB n a = true) : allWkOf n a = ([], false) := by simp [allWkOf, h]
theorem allWk_no2 {m q : Nat} (h : ¬ cntWkN m q ≤ 700) : allWkOf m q = ([], false) := by
  simp [allWkOf, h]

set_option maxHeartbeats 800000 in
theorem specAllWk_any (n a : Int) (w : World) : Calls Try.prog 34 #[.int .i64 n, .int .i64 a] w (PostRows w (allWkOf n a)) := by
  by_cases h1 : slB n a = true
  · have H1 := hid h1
    obtain ⟨m, q, rfl, rfl, hs⟩ := slB_iff.1 h1
    obtain ⟨⟨n0, n1⟩, ⟨q0, q1⟩, -⟩ := slN_iff.1 hs
    have HPW := hid (fun w => slWalks_any m q w ⟨n0, n1⟩ ⟨q0, q1⟩ (chs_slope ⟨n0, n1⟩ ⟨q0, q1⟩))
    have HS := hid hs
    by_cases h7 : cntWkN m q ≤ 700
    · have HA := hid (allWk_yes hs h7)
      have hM := pow_walk m (by omega) q (by omega) hs h7
      have HE : Hid (modL (bnds m q) q true m [] = allW (bnds m q)) := hid (by
        have := modL_allW (bs := bnds m q) (a := q) (bnds_bnd m q) (bnds_lt q0)
        rwa [length_bnds] at this)
      have hnl : ¬ (700 : Int) < (cntWkN m q : Int) := by omega
      have HC := hid (slAll_any m q true HS hM m 0 none 0 [] w (by omega) (Has.nilAt none (by unfold maxLen; omega)) (hid (fun i hi => by omega)))
      clear h1 hs hM h7
      generalize cntWkN m q = pw at *
      go_enter Try.func34, Try.ntmps34
      go_wp2_with (first | (go_at_call 53; refine (slIs_any _ _ _).mono ?_; rintro e w' ⟨rfl, rfl⟩; rw [H1.out]) | (go_at_call 83; refine (HPW.out _).mono ?_; rintro e w' ⟨rfl, rfl⟩))
      refine HC.out.mono ?_
      rintro e w2 ⟨a2, q2, cap2, rs2, rfl, hown2, hn2, hb2⟩
      go_wp2_with fail
      go_ret2
      exact postRows HA.out hown2 (by rw [hn2, HE.out]) hb2
    · have HA := hid (allWk_no2 h7)
      have hnl : (700 : Int) < (cntWkN m q : Int) := by omega
      clear h1 hs h7
      generalize cntWkN m q = pw at *
      go_enter Try.func34, Try.ntmps34
      go_wp2_with (first | (go_at_call 53; refine (slIs_any _ _ _).mono ?_; rintro e w' ⟨rfl, rfl⟩; rw [H1.out]) | (go_at_call 83; refine (HPW.out _).mono ?_; rintro e w' ⟨rfl, rfl⟩))
      go_ret2
      exact postRows_no HA.out (Below.refl _ _)
  · have HA := hid (allWk_no1 h1)
    have H1 := hid h1
    clear h1
    go_enter Try.func34, Try.ntmps34
    go_wp2_with (go_at_call 53; refine (slIs_any _ _ _).mono ?_; rintro e w' ⟨rfl, rfl⟩; rw [Bool.eq_false_iff.2 H1.out])
    go_ret2
    exact postRows_no HA.out (Below.refl _ _)
end Go.Proofs.Ytfkejkkplafciad

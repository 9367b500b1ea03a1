/- Chapter 4: all heights, by the contracts of the functions. -/
import Derived.Test.YtkkhlkaieohklaaSpecWk
import Derived.Test.YtkkhlkaieohklaaSpecAll
import Derived.Test.YtkkhlkaieohklaaImplNx
import Derived.Test.YtkkhlkaieohklaaMathHt
namespace Go.Proofs.Ytkkhlkaieohklaa
open Go.RowKit

theorem length_waF : ∀ (k : Nat) (p : List Int), p.length + k ≤ 6 → lastMost p ≤ p.length → (waF k p).length ≤ 7 ^ k
  | 0, p, _, _ => by simp [waF]
  | k + 1, p, hl, hm => by
    simp only [waF]
    rw [List.length_flatMap]
    have h : ∀ x ∈ (List.range (lastMost p + 1)).map (fun h : Nat => (waF k (p ++ [(h : Int)])).length), x ≤ 7 ^ k := by
      intro x hx
      obtain ⟨y, hy, rfl⟩ := List.mem_map.1 hx
      rw [List.mem_range] at hy
      refine length_waF k _ (by simp; omega) ?_
      have : lastMost (p ++ [(y : Int)]) = y + 1 := by
        unfold lastMost
        rw [List.length_append, List.length_singleton]
        simp only [mostAt]
        rw [nth_append_at]
        omega
      rw [this, List.length_append, List.length_singleton]
      omega
    have h2 : ∀ (l : List Nat), (∀ x ∈ l, x ≤ 7 ^ k) → l.sum ≤ l.length * 7 ^ k := by
      intro l
      induction l with
      | nil => intro _; simp
      | cons a r ih =>
        intro hh
        have h1 := hh a (List.mem_cons_self ..)
        have h3 := ih (fun x hx => hh x (List.mem_cons_of_mem _ hx))
        rw [List.sum_cons, List.length_cons, Nat.succ_mul]
        omega
    have h4 := h2 _ h
    rw [List.length_map, List.length_range] at h4
    have h5 : (lastMost p + 1) * 7 ^ k ≤ 7 * 7 ^ k := Nat.mul_le_mul_right _ (by omega)
    rw [Nat.pow_succ, Nat.mul_comm (7 ^ k) 7]
    omega
def waTo (k : Nat) (p : List Int) (c : Nat) : List (List Int) := (List.range c).flatMap fun (x : Nat) => waF k (p ++ [(x : Int)])
theorem waTo_succ (k : Nat) (p : List Int) (c : Nat) : waTo k p (c + 1) = waTo k p c ++ waF k (p ++ [(c : Int)]) := by simp [waTo, List.range_succ]
theorem length_waTo (k : Nat) (p : List Int) {m : Nat} (hl : p.length = m) (hmk : m + (k + 1) ≤ 6) : ∀ c, c ≤ m + 1 → (waTo k p c).length ≤ c * 7 ^ k
  | 0, _ => by simp [waTo]
  | c + 1, hc => by
    have h1 := length_waTo k p hl hmk c (by omega)
    have h2 : (waF k (p ++ [(c : Int)])).length ≤ 7 ^ k := length_waF k _ (by simp; omega) (by
      have : lastMost (p ++ [(c : Int)]) = c + 1 := by
        unfold lastMost
        rw [List.length_append, List.length_singleton]
        simp only [mostAt]
        rw [nth_append_at]
        omega
      rw [this, List.length_append, List.length_singleton]
      omega)
    rw [waTo_succ, List.length_append, Nat.succ_mul]
    omega

set_option maxHeartbeats 2000000 in
theorem hnext_any (a : Option Addr) (n cap : Nat) (hs : List Int) (w : World) (h : Has w a n cap hs) (h8 : n ≤ 8) (hx : ∀ i, i < n → 0 ≤ nth hs i ∧ nth hs i ≤ 8) :
    Calls Try.prog 66 #[.slice a n cap] w (PostInts w (nextH hs n)) := by
  have HLEN := hid h.len
  have HX := hid hx
  have hcap0 := h.2.1
  clear hx
  go_enter Try.func66, Try.ntmps66
  go_wp2_with fail
  go_loopw [4] (fun i wr => ∃ c : Nat, c ≤ n ∧ i = .int .i64 ((c : Int) - 1) ∧ Hid (nextH hs n = nextH hs c) ∧ Below w.heap.size w wr ∧ w.heap.size = wr.heap.size) (fun i _ => (intOf i + 1).toNat)
  case atStart => exact ⟨n, Nat.le_refl _, rfl, hid rfl, Below.refl _ _, rfl⟩
  case round =>
    obtain ⟨c, hc, rfl, HN, hb, hsz⟩ := hrel
    by_cases hc2 : c ≤ 1
    · have hz : ¬ (0 : Int) < (c : Int) - 1 := by omega
      have HR : Hid (nextH hs n = ([], false)) := hid (by
        rw [HN.out]
        rcases (show c = 0 ∨ c = 1 by omega) with rfl | rfl
        · rfl
        · rfl)
      go_wp2_with fail
      go_ret2
      exact postInts_no HR.out hb
    · obtain ⟨r, rfl⟩ : ∃ r, c = r + 1 := ⟨c - 1, by omega⟩
      have e : ((r + 1 : Nat) : Int) - 1 = (r : Int) := by omega
      rw [e]
      have hr0 : (0 : Int) < (r : Int) := by omega
      have hrn : r < n := by omega
      have HS : Hid (nextH hs (r + 1) = if raisedB hs r then nextH hs r else (hs.take r ++ (nth hs r + 1) :: List.replicate (hs.length - (r + 1)) 0, true)) := hid (by simp only [nextH]; rw [if_neg (by omega)])
      clear e hc2
      go_wp2_with fail
      refine (isRaised_any _ _ _ _ r _ (h.below hb (Nat.le_refl _)) hrn (fun i hi => by have := HX.out i hi; omega)).mono ?_
      rintro e w2 ⟨rfl, q2, rfl⟩
      have hb2 : Below w.heap.size w (wr.drewN q2) := below_drewN hb _
      have hsz2 : w.heap.size = (wr.drewN q2).heap.size := hsz
      clear hb
      by_cases hr : raisedB hs r = true
      · rw [hr]
        have HR : Hid (nextH hs n = nextH hs r) := hid (by rw [HN.out, HS.out, if_pos hr])
        clear hr
        go_wp2_with fail
        go_roundw
        case rel => exact ⟨r, by omega, by go_num, HR, hb2, hsz2⟩
        case measure => simp [intOf]
      · rw [Bool.eq_false_iff.2 hr]
        have HR : Hid (nextH hs n = (hs.take r ++ (nth hs r + 1) :: List.replicate (hs.length - (r + 1)) 0, true)) := hid (by rw [HN.out, HS.out, if_neg hr])
        have HO : Hid ((over0 (List.replicate n 0) (hs.take (r + 1))).set r (nth hs r + 1) = hs.take r ++ (nth hs r + 1) :: List.replicate (hs.length - (r + 1)) 0) := hid (by
          have hl := HLEN.out
          unfold over0
          rw [List.length_replicate, List.length_take, List.drop_replicate, Nat.min_eq_left (by omega), List.take_of_length_le (show (hs.take (r + 1)).length ≤ n by rw [List.length_take]; omega)]
          rw [take_succ_nth (by omega), List.append_assoc, List.set_append_right _ _ (by rw [List.length_take]; omega)]
          rw [List.length_take, Nat.min_eq_left (by omega), Nat.sub_self, hl]
          rfl)
        have htk := (h.below hb2 (Nat.le_refl _)).take (k := r + 1) (by omega)
        have hxr := HX.out r hrn
        have hgt : Hid (nth (over0 (List.replicate n 0) (hs.take (r + 1))) r = nth hs r) := hid (by
          rw [over0_nth (by rw [List.length_take, List.length_replicate]; have := HLEN.out; omega), if_pos (by rw [List.length_take]; have := HLEN.out; omega), nth_take (by omega)])
        clear hr
        generalize wr.drewN q2 = wq at *
        have hsq : w.heap.size = wq.heap.size := hsz2
        go_wp2_with (first
          | (refine wpList_make_intsT 71 Try.underlying71 _ rfl _ _ rfl n rfl rfl (by omega) ?_; intro a1 cap1 w1 hown1 hb1)
          | (with_reducible refine wpList_copy_intsT 71 71 Try.underlying71 _ rfl _ _ rfl wq.heap.size _ _ _ _ _ _ _ _ rfl rfl hown1 (htk.below hb1 (Nat.le_refl _)) (by omega) ?_; intro w2 hown2 hb3; obtain ⟨g, rfl, hg1, hg2, hg3, hg4⟩ := hown2.opened (by omega); have hgx := hg3 r hrn; have hgf := hg4 r; rw [hgt.out] at hgx; clear hg3 hg4))
        obtain ⟨s1, s2⟩ := hown2.set r (nth hs r + 1)
        rw [HO.out] at s1
        have hbf := (hb2.trans ((hb1.trans hb3).mono (by omega))).setCell (p := ⟨g, r, none⟩) (by simp; omega) (.int .i64 (nth hs r + 1))
        go_ret2
        exact postInts HR.out (s1.mono (by omega)) hbf
theorem take_getDH {L : List (List Int)} {k : Nat} (h : k < L.length) : L.take (k + 1) = L.take k ++ [L.getD k []] := by
  rw [List.take_succ_eq_append_getElem h]
  simp [h]

set_option maxHeartbeats 4000000 in
theorem allHgt_any (n : Nat) (L : List (List Int)) (hch : Chain (fun xs => nextH xs xs.length) L) (h8 : n ≤ 8) (hq : L.length ≤ 100000) (hv : ∀ k, k < L.length → (L.getD k []).length = n ∧ ∀ i, i < n → 0 ≤ nth (L.getD k []) i ∧ nth (L.getD k []) i ≤ 8)
    (w0 w : World) (a : Option Addr) (m cap : Nat) (xs : List Int) (hb0 : Below w0.heap.size w0 w) (hfirst : Own w w0.heap.size a m cap xs) (hx : L.getD 0 [] = xs) :
    Calls Try.prog 65 #[.slice a m cap, .func (.func 66) #[] #[]] w (PostRowsOnly w0 L) := by
  obtain ⟨hL0, hL1, hL2⟩ := hch
  have H1 := hid hL1
  have H2 := hid hL2
  have HV := hid hv
  have HX := hid hx
  clear hL1 hL2 hv hx
  go_enter Try.func65, Try.ntmps65
  go_wp2_with fail
  go_loopw [5, 6, 7] (fun o s b wr => ∃ (k : Nat) (wk : World) (a' : Option Addr) (cap' : Nat) (rs : List Rw) (a1 : Option Addr) (m1 c1 : Nat) (ys : List Int) (ok : Bool), k ≤ L.length ∧ o = .slice a' k cap' ∧ s = .slice a1 m1 c1 ∧ b = .bool ok ∧ Hid (ok = decide (k < L.length)) ∧
    OwnR wk w0.heap.size a' k cap' rs ∧ Hid (numsOf rs = L.take k) ∧ Below wk.heap.size wk wr ∧ w0.heap.size ≤ wk.heap.size ∧ Own wr wk.heap.size a1 m1 c1 ys ∧ Hid (k < L.length → L.getD k [] = ys) ∧ Below w0.heap.size w0 wr) (fun o _ _ _ => L.length + 1 - (match o with | .slice _ k _ => k | _ => 0))
  case atStart => exact ⟨0, w0, none, 0, [], a, m, cap, xs, true, Nat.zero_le _, rfl, rfl, rfl, hid (by simp [hL0]), OwnR.nil _ _, hid rfl, hb0, Nat.le_refl _, hfirst, hid (fun _ => HX.out), hb0⟩
  case round =>
    clear hb0 hfirst
    obtain ⟨k, wk, a', cap', rs, a1, m1, c1, ys, ok, hk, rfl, rfl, rfl, HOK, hrows, HR, hbk, hwk, hys, HY, hb⟩ := hrel
    by_cases hlt : k < L.length
    · obtain rfl : ok = true := by rw [HOK.out]; simp [hlt]
      obtain ⟨v1, v2⟩ := HV.out k hlt
      have hyl := HY.out hlt
      rw [hyl] at v1 v2
      obtain rfl : n = m1 := by rw [← v1]; exact hys.len
      have V2 := hid v2
      have V1 := hid v1
      have HYL := hid hyl
      have HT := hid (take_getDH hlt)
      have HR' : Hid (numsOf rs ++ [ys] = L.take (k + 1)) := hid (by rw [HT.out, HR.out, HYL.out])
      have hlen := hrows.len
      have HLEN := hid hlen
      clear v1 v2 hyl hlen
      go_wp2_with (at_builtin; refine wpList_append_row wk wr rfl _ _ rfl w0.heap.size _ _ _ _ _ _ _ _ rfl rfl hrows hbk hys (by omega) hwk ?_; intro a2 cap2 w2 hrows2 hb2)
      have hrow : Has w2 a1 n c1 ys := by
        have := hrows2.has.2.2.2.2.2 k (by omega)
        rw [nthR_append_right (by rw [HLEN.out]; exact Nat.le_refl _), HLEN.out, Nat.sub_self, nthR_one] at this
        simpa [V1.out] using this
      refine (hnext_any _ _ _ _ _ hrow h8 V2.out).mono ?_
      have hw2 : w0.heap.size ≤ w2.heap.size := Nat.le_trans (Nat.le_trans hwk hbk.size) hb2.size
      have hbw := hb.trans hb2
      by_cases hk1 : k + 1 < L.length
      · have HF := H1.out k hk1
        rw [HYL.out] at HF
        simp only [V1.out] at HF
        rw [HF]
        rintro e w3 ⟨a3, m3, cap3, rfl, hown3, hb3⟩
        clear HF
        go_wp2_with fail
        go_roundw
        case rel => exact ⟨k + 1, w2, a2, cap2, _, a3, m3, cap3, _, true, by omega, rfl, rfl, rfl, hid (by simp [hk1]), hrows2, hid (by rw [← HR'.out]; simp [numsOf]), hb3, hw2, hown3, hid (fun _ => rfl), hbw.trans (hb3.mono hw2)⟩
        case measure => simp; omega
      · have HF := H2.out
        rw [show L.length - 1 = k by omega, HYL.out] at HF
        simp only [V1.out] at HF
        rw [HF]
        rintro e w3 ⟨a3, m3, cap3, rfl, hown3, hb3⟩
        clear HF
        go_wp2_with fail
        go_roundw
        case rel => exact ⟨k + 1, w2, a2, cap2, _, a3, m3, cap3, _, false, by omega, rfl, rfl, rfl, hid (by simp [hk1]), hrows2, hid (by rw [← HR'.out]; simp [numsOf]), hb3, hw2, hown3, hid (fun h => absurd h hk1), hbw.trans (hb3.mono hw2)⟩
        case measure => simp; omega
    · obtain rfl : ok = false := by rw [HOK.out]; simp [hlt]
      have HE : Hid (numsOf rs = L) := hid (by rw [HR.out, List.take_of_length_le (by omega)])
      go_wp2_with fail
      go_ret
      exact ⟨a', k, cap', rs, rfl, hrows.below hbk (Nat.le_refl _), HE.out, hb⟩

theorem allHeightsOf_yes {n : Nat} (h : inB (n : Int) 0 6 = true) : allHeightsOf n = (waF n [], true) := by simp [allHeightsOf, h]
theorem allHeightsOf_no {n : Int} (h : ¬ inB n 0 6 = true) : allHeightsOf n = ([], false) := by simp [allHeightsOf, h]
theorem heights_facts {n : Nat} (h : n ≤ 6) : Chain (fun xs => nextH xs xs.length) (waF n []) ∧ (waF n []).getD 0 [] = List.replicate n 0 ∧ (waF n []).length ≤ 132 ∧
    ∀ k, k < (waF n []).length → ((waF n []).getD k []).length = n ∧ ∀ i, i < n → 0 ≤ nth ((waF n []).getD k []) i ∧ nth ((waF n []).getD k []) i ≤ 8 := by
  obtain ⟨c1, c2, c3, c4⟩ := heights_chain n (by omega)
  refine ⟨chain_of c1, c2, c3, fun k hk => ?_⟩
  have hm : (waF n []).getD k [] ∈ waF n [] := by simp [hk]
  have := List.all_eq_true.1 c4 _ hm
  simp only [Bool.and_eq_true, decide_eq_true_eq] at this
  refine ⟨this.1, fun i hi => ?_⟩
  have := (hgt_of this.2 this.1).2 i hi
  omega

set_option maxHeartbeats 400000 in
theorem allHeights_any (n : Int) (w : World) : Calls Try.prog 32 #[.int .i64 n] w (PostRows w (allHeightsOf n)) := by
  by_cases h1 : 0 ≤ n
  · by_cases h2 : n ≤ 6
    · obtain ⟨m, rfl⟩ : ∃ m : Nat, n = (m : Int) := ⟨n.toNat, by omega⟩
      have hm : m ≤ 6 := by omega
      have HA := hid (allHeightsOf_yes (inB_iff.2 ⟨h1, h2⟩))
      obtain ⟨hc, hf, hl, hp⟩ := heights_facts hm
      have HF := hid hf
      have HC := hid hc
      have HV := hid hp
      have HL : Hid ((waF m []).length ≤ 100000) := hid (by omega)
      clear hf hl hp hc
      go_enter Try.func32, Try.ntmps32
      go_wp2_with (refine wpList_make_intsT 71 Try.underlying71 _ rfl _ _ rfl m rfl rfl (by omega) ?_; intro a1 cap1 w1 hown1 hb1)
      refine (allHgt_any m (waF m []) HC.out (by omega) HL.out HV.out w _ _ _ _ _ hb1 hown1 HF.out).mono ?_
      rintro e w2 ⟨a2, q2, cap2, rs2, rfl, hown2, hn2, hb2⟩
      go_wp2_with fail
      go_ret2
      exact postRows HA.out hown2 hn2 hb2
    · have HA := hid (allHeightsOf_no (n := n) (by rw [Bool.not_eq_true, inB_not]; omega))
      go_enter Try.func32, Try.ntmps32
      go_wp2_with fail
      go_ret2
      exact postRows_no HA.out (Below.refl _ _)
  · have HA := hid (allHeightsOf_no (n := n) (by rw [Bool.not_eq_true, inB_not]; omega))
    go_enter Try.func32, Try.ntmps32
    go_wp2_with fail
    go_ret2
    exact postRows_no HA.out (Below.refl _ _)

set_option maxHeartbeats 4000000 in
theorem waAll_any (n : Nat) (h6 : n ≤ 6) : ∀ (k m : Nat) (a : Option Addr) (cap : Nat) (p : List Int) (w : World), m + k = n → Has w a m cap p → 0 ≤ mostAt p m → mostAt p m ≤ (m : Int) →
    Calls Try.prog 64 #[.slice a m cap, .int .i64 (n : Int)] w (PostRowsOnly w (waF k p)) := by
  intro k
  induction k with
  | zero =>
    intro m a cap p w hmk h _ _
    obtain rfl : m = n := by omega
    have hbe : ((m : Int) == (m : Int)) = true := by simp
    have HR : Hid (waF 0 p = [p]) := hid rfl
    go_enter Try.func64, Try.ntmps64
    go_wp2_with fail
    refine (l1Own_any _ _ _ _ _ h).mono ?_
    rintro e w1 ⟨a1, cap1, rfl, hown1, hb1⟩
    have hlit := ownR_lit1 hown1 hb1.size
    have hba := hb1.alloc hb1.size (.cells #[.slice a1 m cap1] 26)
    go_wp2_with fail
    go_ret
    exact ⟨_, _, _, _, rfl, hlit, by rw [HR.out]; rfl, hba⟩
  | succ k ih =>
    intro m a cap p w hmk h hl0 hl1
    have IH := hid ih
    have hbe : ((m : Int) == (n : Int)) = false := by simp; omega
    have HLEN := hid h.len
    obtain ⟨M, hM⟩ : ∃ M : Nat, mostAt p m = (M : Int) := ⟨(mostAt p m).toNat, by omega⟩
    have hMm : M ≤ m := by omega
    have HTO := hid (length_waTo k p h.len (by omega))
    have HSN : Hid (∀ x : Nat, mostAt (p ++ [(x : Int)]) (m + 1) = (x : Int) + 1) := hid (fun x => by simp only [mostAt]; rw [show m = p.length from h.len.symm, nth_append_at])
    have HSUB : Hid (∀ x : Nat, x ≤ m → (waF k (p ++ [(x : Int)])).length ≤ 7 ^ k) := hid (fun x hx => length_waF k _ (by rw [List.length_append, HLEN.out]; simp; omega) (by
      unfold lastMost
      rw [List.length_append, List.length_singleton, HLEN.out, HSN.out]
      omega))
    have hp7 := pow7 k (by omega)
    have HR : Hid (waF (k + 1) p = waTo k p (M + 1)) := hid (by
      show (List.range (lastMost p + 1)).flatMap _ = _
      unfold lastMost
      rw [HLEN.out, hM, Int.toNat_natCast]
      rfl)
    clear ih hl0 hl1
    by_cases hm0 : m = 0
    · have HM0 : Hid (M = 0) := hid (by rw [hm0] at hM; simp only [mostAt] at hM; omega)
      have hm1 : ¬ 0 < m := by omega
      clear hm0 hM
      go_enter Try.func64, Try.ntmps64
      go_wp2_with fail
      go_loopw [6, 7] (fun o x wr => ∃ (c : Nat) (a' : Option Addr) (q cap' : Nat) (rs : List Rw), c ≤ M + 1 ∧ x = .int .i64 (c : Int) ∧ o = .slice a' q cap' ∧ OwnR wr w.heap.size a' q cap' rs ∧ Hid (numsOf rs = waTo k p c) ∧ Below w.heap.size w wr) (fun _ x _ => M + 1 - (intOf x).toNat)
      case atStart => exact ⟨0, none, 0, 0, [], by omega, rfl, rfl, OwnR.nil _ _, hid rfl, Below.refl _ _⟩
      case round =>
        obtain ⟨c, a', q, cap', rs, hc, rfl, rfl, hown, HNU, hb⟩ := hrel
        by_cases hlt : c ≤ M
        · have hq : q ≤ 823543 := by
            have h1 := numsOf_len hown
            rw [HNU.out] at h1
            have h2 := HTO.out c (by omega)
            have h3 := Nat.mul_le_mul (show c ≤ 7 by omega) hp7
            omega
          have hh := h.below hb (Nat.le_refl _)
          have hszr := hb.size
          obtain rfl : c = 0 := by have := HM0.out; omega
          have HS2 : Hid ((waF k (p ++ [0])).length ≤ 7 ^ k) := hid (by have := HSUB.out 0 (by omega); simpa using this)
          have HS0 : Hid (mostAt (p ++ [0]) (m + 1) = 1) := hid (by have := HSN.out 0; simpa using this)
          go_wp2_with fail
          refine (l1Own_any _ _ _ _ _ hh).mono ?_
          rintro e w3 ⟨a3, cap3, rfl, hown3, hb3⟩
          go_wp2_with (at_builtin; refine wpList_append_int _ rfl _ _ rfl wr.heap.size _ _ _ _ _ rfl rfl hown3 (by omega) hb3.size ?_; intro a4 cap4 w4 hown4 hb4)
          have hb34 := hb3.trans hb4
          refine (IH.out (m + 1) _ _ _ _ (by omega) hown4.has (by rw [HS0.out]; omega) (by rw [HS0.out]; omega)).mono ?_
          rintro e w5 ⟨a5, q5, cap5, rs5, rfl, hown5, hn5, hb5⟩
          have hb35 := hb34.trans (hb5.mono hb34.size)
          have HN5 := hid hn5
          have hq5 : q5 ≤ 117649 := by
            have h1 := numsOf_len hown5
            rw [hn5] at h1
            have := HS2.out
            omega
          have hown5' := hown5.mono hb34.size
          clear hn5 hown3 hown4 hb3 hb4 hb5 hb34 hown5
          go_wp2_with (at_builtin; refine wpList_append_rowsAny wr w5 rfl _ _ rfl w.heap.size _ _ _ _ _ _ _ _ rfl rfl hown hb35 hown5' (by omega) hszr ?_; intro a6 q6 cap6 w6 hq6 hown6 hb6)
          go_roundw
          case rel =>
            refine ⟨0 + 1, a6, q6, cap6, _, by omega, by go_num, rfl, hown6, hid ?_, (hb.trans (hb35.mono hszr)).trans hb6⟩
            rw [numsOf_app, HNU.out, HN5.out, waTo_succ]
            try rfl
          case measure => simp [intOf]
        · have HC : Hid (M + 1 = c) := hid (by omega)
          have hcz : ¬ (c : Int) ≤ 0 := by have := HM0.out; omega
          go_wp2_with fail
          go_ret
          exact ⟨a', q, cap', rs, rfl, hown, by rw [HR.out, HNU.out, HC.out], hb⟩
    · have hm1 : 0 < m := by omega
      obtain ⟨b0, off0, rfl, hb0, hc0⟩ := h.2.2.2.2 hm1
      have hcl := hc0 (m - 1) (by omega)
      have he1 : (m : Int) - 1 = ((m - 1 : Nat) : Int) := by omega
      have HM0 : Hid (nth p (m - 1) + 1 = (M : Int)) := hid (by obtain ⟨j, rfl⟩ : ∃ j, m = j + 1 := ⟨m - 1, by omega⟩; simp only [mostAt] at hM; exact hM)
      have hv : nth p (m - 1) = (M : Int) - 1 := by have := HM0.out; omega
      rw [hv] at hcl
      clear hc0 hM hm0 hv
      go_enter Try.func64, Try.ntmps64
      go_wp2_with fail
      go_loopw [6, 7] (fun o x wr => ∃ (c : Nat) (a' : Option Addr) (q cap' : Nat) (rs : List Rw), c ≤ M + 1 ∧ x = .int .i64 (c : Int) ∧ o = .slice a' q cap' ∧ OwnR wr w.heap.size a' q cap' rs ∧ Hid (numsOf rs = waTo k p c) ∧ Below w.heap.size w wr) (fun _ x _ => M + 1 - (intOf x).toNat)
      case atStart => exact ⟨0, none, 0, 0, [], by omega, rfl, rfl, OwnR.nil _ _, hid rfl, Below.refl _ _⟩
      case round =>
        obtain ⟨c, a', q, cap', rs, hc, rfl, rfl, hown, HNU, hb⟩ := hrel
        by_cases hlt : c ≤ M
        · have hq : q ≤ 823543 := by
            have h1 := numsOf_len hown
            rw [HNU.out] at h1
            have h2 := HTO.out c (by omega)
            have h3 := Nat.mul_le_mul (show c ≤ 7 by omega) hp7
            omega
          have hh := h.below hb (Nat.le_refl _)
          have hszr := hb.size
          have HS2 := hid (HSUB.out c (by omega))
          have hcz : (c : Int) ≤ (M : Int) - 1 + 1 := by omega
          go_wp2_with fail
          refine (l1Own_any _ _ _ _ _ hh).mono ?_
          rintro e w3 ⟨a3, cap3, rfl, hown3, hb3⟩
          go_wp2_with (at_builtin; refine wpList_append_int _ rfl _ _ rfl wr.heap.size _ _ _ _ _ rfl rfl hown3 (by omega) hb3.size ?_; intro a4 cap4 w4 hown4 hb4)
          have hb34 := hb3.trans hb4
          refine (IH.out (m + 1) _ _ _ _ (by omega) hown4.has (by rw [HSN.out]; omega) (by rw [HSN.out]; omega)).mono ?_
          rintro e w5 ⟨a5, q5, cap5, rs5, rfl, hown5, hn5, hb5⟩
          have hb35 := hb34.trans (hb5.mono hb34.size)
          have HN5 := hid hn5
          have hq5 : q5 ≤ 117649 := by
            have h1 := numsOf_len hown5
            rw [hn5] at h1
            have := HS2.out
            omega
          have hown5' := hown5.mono hb34.size
          clear hn5 hown3 hown4 hb3 hb4 hb5 hb34 hown5
          go_wp2_with (at_builtin; refine wpList_append_rowsAny wr w5 rfl _ _ rfl w.heap.size _ _ _ _ _ _ _ _ rfl rfl hown hb35 hown5' (by omega) hszr ?_; intro a6 q6 cap6 w6 hq6 hown6 hb6)
          go_roundw
          case rel =>
            refine ⟨c + 1, a6, q6, cap6, _, by omega, by go_num, rfl, hown6, hid ?_, (hb.trans (hb35.mono hszr)).trans hb6⟩
            rw [numsOf_app, HNU.out, HN5.out, waTo_succ]
          case measure => simp [intOf]; omega
        · have HC : Hid (M + 1 = c) := hid (by omega)
          have hcz : ¬ (c : Int) ≤ (M : Int) - 1 + 1 := by omega
          go_wp2_with fail
          go_ret
          exact ⟨a', q, cap', rs, rfl, hown, by rw [HR.out, HNU.out, HC.out], hb⟩

set_option maxHeartbeats 400000 in
theorem specAllHeights_any (n : Int) (w : World) : Calls Try.prog 31 #[.int .i64 n] w (PostRows w (allHeightsOf n)) := by
  by_cases hg : inB n 0 6 = true
  · obtain ⟨m, rfl⟩ : ∃ m : Nat, n = (m : Int) := ⟨n.toNat, by have := inB_iff.1 hg; omega⟩
    have hm : m ≤ 6 := by have := inB_iff.1 hg; omega
    have HA := hid (allHeightsOf_yes hg)
    have HG := hid hg
    clear hg
    go_enter Try.func31, Try.ntmps31
    go_wp2_with (go_at_call 47; refine (l1In_any _ _ _ _).mono ?_; rintro e w' ⟨rfl, rfl⟩; rw [HG.out])
    refine (waAll_any m hm m 0 none 0 [] _ (by omega) (Has.nilAt none (by unfold maxLen; omega)) (by simp [mostAt]) (by simp [mostAt])).mono ?_
    rintro e w2 ⟨a2, q2, cap2, rs2, rfl, hown2, hn2, hb2⟩
    go_wp2_with fail
    go_ret2
    exact postRows HA.out hown2 hn2 hb2
  · have HA := hid (allHeightsOf_no hg)
    have HG := hid hg
    clear hg
    go_enter Try.func31, Try.ntmps31
    go_wp2_with (go_at_call 47; refine (l1In_any _ _ _ _).mono ?_; rintro e w' ⟨rfl, rfl⟩; rw [Bool.eq_false_iff.2 HG.out])
    go_ret2
    exact postRows_no HA.out (Below.refl _ _)
end Go.Proofs.Ytkkhlkaieohklaa

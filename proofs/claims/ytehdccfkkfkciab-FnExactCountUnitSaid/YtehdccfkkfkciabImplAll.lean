/- All parking functions and all sorted ones: the program's functions, by their contracts. -/
import Derived.Test.YtehdccfkkfkciabImplNx
import Derived.Test.YtehdccfkkfkciabSpecAll
import Derived.Test.YtehdccfkkfkciabCopy
namespace Go.Proofs.Ytehdccfkkfkciab
open Go.RowKit

set_option maxHeartbeats 4000000 in
theorem allNext_any (n : Nat) (L : List (List Int)) (hch : Chain (fun xs => nextP xs xs.length) L) (h8 : n ≤ 8) (hq : L.length ≤ 100000) (hv : ∀ k, k < L.length → (L.getD k []).length = n ∧ ∀ i, i < n → 0 ≤ nth (L.getD k []) i ∧ nth (L.getD k []) i ≤ 8)
    (w0 w : World) (a : Option Addr) (m cap : Nat) (xs : List Int) (hb0 : Below w0.heap.size w0 w) (hfirst : Own w w0.heap.size a m cap xs) (hx : L.getD 0 [] = xs) :
    Calls Try.prog 61 #[.slice a m cap, .func (.func 62) #[] #[]] w (PostRowsOnly w0 L) := by
  obtain ⟨hL0, hL1, hL2⟩ := hch
  have H1 := hid hL1
  have H2 := hid hL2
  have HV := hid hv
  have HX := hid hx
  clear hL1 hL2 hv hx
  go_enter Try.func61, Try.ntmps61
  go_wp2_with fail
  go_loopw [5, 6, 7] (fun o s b wr => ∃ (k : Nat) (wk : World) (a' : Option Addr) (cap' : Nat) (rs : List Rw) (a1 : Option Addr) (m1 c1 : Nat) (ys : List Int) (ok : Bool), k ≤ L.length ∧ o = .slice a' k cap' ∧ s = .slice a1 m1 c1 ∧ b = .bool ok ∧ Hid (ok = decide (k < L.length)) ∧
    OwnR wk w0.heap.size a' k cap' rs ∧ Hid (numsOf rs = L.take k) ∧ Below wk.heap.size wk wr ∧ w0.heap.size ≤ wk.heap.size ∧ Own wr wk.heap.size a1 m1 c1 ys ∧ Hid (k < L.length → L.getD k [] = ys) ∧ Below w0.heap.size w0 wr) (fun o _ _ _ => L.length + 1 - (match o with | .slice _ k _ => k | _ => 0))
  case atStart => exact ⟨0, w0, none, 0, [], a, m, cap, xs, true, Nat.zero_le _, rfl, rfl, rfl, hid (by simp [hL0]), OwnR.nil _ _, hid rfl, hb0, Nat.le_refl _, hfirst, hid (fun _ => HX.out), hb0⟩
  case round =>
    clear hb0 hfirst
    obtain ⟨k, wk, a', cap', rs, a1, m1, c1, ys, ok, hk, rfl, rfl, rfl, HOK, hrows, HR, hbk, hwk, hys, HY, hb⟩ := hrel
    by_cases hlt : k < L.length
    · obtain rfl : ok = true := by rw [HOK.out]; simp [hlt]
      obtain ⟨v1, v2⟩ := HV.out k hlt
      have hyl := HY.out hlt
      rw [hyl] at v1 v2
      obtain rfl : n = m1 := by rw [← v1]; exact hys.len
      have V2 := hid v2
      have V1 := hid v1
      have HYL := hid hyl
      have HT := hid (take_getD hlt)
      have HR' : Hid (numsOf rs ++ [ys] = L.take (k + 1)) := hid (by rw [HT.out, HR.out, HYL.out])
      have hlen := hrows.len
      have HLEN := hid hlen
      clear v1 v2 hyl hlen
      go_wp2_with (at_builtin; refine wpList_append_row wk wr rfl _ _ rfl w0.heap.size _ _ _ _ _ _ _ _ rfl rfl hrows hbk hys (by omega) hwk ?_; intro a2 cap2 w2 hrows2 hb2)
      have hrow : Has w2 a1 n c1 ys := by
        have := hrows2.has.2.2.2.2.2 k (by omega)
        rw [nthR_append_right (by rw [HLEN.out]; exact Nat.le_refl _), HLEN.out, Nat.sub_self, nthR_one] at this
        simpa [V1.out] using this
      refine (pnext_any _ _ _ _ _ hrow h8 V2.out).mono ?_
      have hw2 : w0.heap.size ≤ w2.heap.size := Nat.le_trans (Nat.le_trans hwk hbk.size) hb2.size
      have hbw := hb.trans hb2
      by_cases hk1 : k + 1 < L.length
      · have HF := H1.out k hk1
        rw [HYL.out] at HF
        simp only [V1.out] at HF
        rw [HF]
        rintro e w3 ⟨a3, m3, cap3, rfl, hown3, hb3⟩
        clear HF
        go_wp2_with fail
        go_roundw
        case rel => exact ⟨k + 1, w2, a2, cap2, _, a3, m3, cap3, _, true, by omega, rfl, rfl, rfl, hid (by simp [hk1]), hrows2, hid (by rw [← HR'.out]; simp [numsOf]), hb3, hw2, hown3, hid (fun _ => rfl), hbw.trans (hb3.mono hw2)⟩
        case measure => simp; omega
      · have HF := H2.out
        rw [show L.length - 1 = k by omega, HYL.out] at HF
        simp only [V1.out] at HF
        rw [HF]
        rintro e w3 ⟨a3, m3, cap3, rfl, hown3, hb3⟩
        clear HF
        go_wp2_with fail
        go_roundw
        case rel => exact ⟨k + 1, w2, a2, cap2, _, a3, m3, cap3, _, false, by omega, rfl, rfl, rfl, hid (by simp [hk1]), hrows2, hid (by rw [← HR'.out]; simp [numsOf]), hb3, hw2, hown3, hid (fun h => absurd h hk1), hbw.trans (hb3.mono hw2)⟩
        case measure => simp; omega
    · obtain rfl : ok = false := by rw [HOK.out]; simp [hlt]
      have HE : Hid (numsOf rs = L) := hid (by rw [HR.out, List.take_of_length_le (by omega)])
      go_wp2_with fail
      go_ret
      exact ⟨a', k, cap', rs, rfl, hrows.below hbk (Nat.le_refl _), HE.out, hb⟩

theorem chain_next {n : Nat} (h8 : n ≤ 8) : Chain (fun xs => nextP xs xs.length) (listL n n []) := by
  obtain ⟨⟨c1, c2, c3⟩, _, _, hp⟩ := all_chain h8
  refine ⟨c1, fun k hk => ?_, ?_⟩
  · show nextP _ _ = _
    rw [nextP_eq (hp k (by omega)).1]
    exact c2 k hk
  · show nextP _ _ = _
    rw [nextP_eq (hp _ (by omega)).1]
    exact c3
theorem cnt_le5 {n : Nat} (h : n ≤ 5) : cnt n ≤ 1296 := by
  have : ∀ n, n < 6 → cnt n ≤ 1296 := by decide +kernel
  exact this n (by omega)

set_option maxHeartbeats 400000 in
theorem allParking_any (n : Int) (w : World) : Calls Try.prog 32 #[.int .i64 n] w (PostRows w (allOf n)) := by
  by_cases h1 : 0 ≤ n
  · by_cases h2 : n ≤ 5
    · obtain ⟨m, rfl⟩ : ∃ m : Nat, n = (m : Int) := ⟨n.toNat, by omega⟩
      have hm : m ≤ 5 := by omega
      have HA := hid (allOf_yes (inB_iff.2 ⟨h1, h2⟩))
      obtain ⟨_, hf, hl, hp⟩ := all_chain (n := m) (by omega)
      have hc5 := cnt_le5 hm
      have HF := hid hf
      have HC := hid (chain_next (n := m) (by omega))
      have HV : Hid (∀ k, k < (listL m m []).length → ((listL m m []).getD k []).length = m ∧ ∀ i, i < m → 0 ≤ nth ((listL m m []).getD k []) i ∧ nth ((listL m m []).getD k []) i ≤ 8) := hid (fun k hk => ⟨(hp k hk).2, (parks_small (hp k hk).1 (hp k hk).2).2⟩)
      have HL : Hid ((listL m m []).length ≤ 100000) := hid (by omega)
      clear hf hl hp
      go_enter Try.func32, Try.ntmps32
      go_wp2_with (refine wpList_make_intsT 57 Try.underlying57 _ rfl _ _ rfl m rfl rfl (by omega) ?_; intro a1 cap1 w1 hown1 hb1)
      refine (allNext_any m (listL m m []) HC.out (by omega) HL.out HV.out w _ _ _ _ _ hb1 hown1 HF.out).mono ?_
      rintro e w2 ⟨a2, q2, cap2, rs2, rfl, hown2, hn2, hb2⟩
      go_wp2_with fail
      go_ret2
      exact postRows HA.out hown2 hn2 hb2
    · have HA := hid (allOf_no (n := n) (by rw [Bool.not_eq_true, inB_not]; omega))
      go_enter Try.func32, Try.ntmps32
      go_wp2_with fail
      go_ret2
      exact postRows_no HA.out (Below.refl _ _)
  · have HA := hid (allOf_no (n := n) (by rw [Bool.not_eq_true, inB_not]; omega))
    go_enter Try.func32, Try.ntmps32
    go_wp2_with fail
    go_ret2
    exact postRows_no HA.out (Below.refl _ _)

theorem allSortedOf_yes {n : Nat} (h : inB (n : Int) 0 6 = true) : allSortedOf n = (sortL n [], true) := by simp [allSortedOf, h]
theorem allSortedOf_no {n : Int} (h : ¬ inB n 0 6 = true) : allSortedOf n = ([], false) := by simp [allSortedOf, h]
theorem sorted_facts {n : Nat} (h : n ≤ 6) : Chain (fun xs => nextS xs xs.length) (sortL n []) ∧ (sortL n []).getD 0 [] = List.replicate n 0 ∧ (sortL n []).length ≤ 132 ∧
    ∀ k, k < (sortL n []).length → ((sortL n []).getD k []).length = n ∧ ∀ i, i < n → 0 ≤ nth ((sortL n []).getD k []) i ∧ nth ((sortL n []).getD k []) i ≤ 8 := by
  obtain ⟨c1, c2, c3, c4⟩ := sorted_chain n (by omega)
  refine ⟨chain_of c1, c2, c3, fun k hk => ?_⟩
  have hm : (sortL n []).getD k [] ∈ sortL n [] := by simp [hk]
  have := List.all_eq_true.1 c4 _ hm
  simp only [Bool.and_eq_true, decide_eq_true_eq] at this
  refine ⟨this.1, fun i hi => ?_⟩
  have := allB_nth this.2 (k := i) (by omega)
  omega

end Go.Proofs.Ytehdccfkkfkciab

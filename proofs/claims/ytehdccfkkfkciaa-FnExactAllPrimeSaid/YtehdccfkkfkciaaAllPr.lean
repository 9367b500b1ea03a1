/- Chapter 9: AllPrime, by the contracts of the functions. -/
import Derived.Test.YtehdccfkkfkciaaMathVp
import Derived.Test.YtehdccfkkfkciaaImplUn
import Derived.Test.YtehdccfkkfkciaaSpecAll
import Derived.Test.YtehdccfkkfkciaaSpecE
import Derived.Test.YtehdccfkkfkciaaRowA
import Derived.Test.YtehdccfkkfkciaaPrimeA
namespace Go.Proofs.Ytehdccfkkfkciaa
open Go.RowKit

set_option maxHeartbeats 800000 in
theorem primeBounds_any (n : Nat) (w : World) (hn : n ≤ 8) :
    Calls Try.prog 68 #[.int .i64 (n : Int)] w fun e w' => ∃ a' cap', e = .returned (.slice a' n cap') ∧ Own w' w.heap.size a' n cap' (pbs n) ∧ Below w.heap.size w w' := by
  have HN := hid (fun k (hk : k < n) => nth_pbs hk)
  have HLL := hid (length_pbs n)
  go_enter Try.func68, Try.ntmps68
  go_wp2_with (at_make; refine wpList_make_ints _ rfl _ _ rfl n rfl rfl (by omega) ?_; intro a1 cap1 w1 hown1 hb1)
  go_loopw [9] (fun i wr => ∃ (k : Nat) (zs : List Int), k ≤ n ∧ i = .int .i64 (k : Int) ∧ Own wr w.heap.size a1 n cap1 zs ∧ Hid (FromTo (pbs n) zs k) ∧ Below w.heap.size w wr) (fun i _ => n - (intOf i).toNat)
  case atStart => exact ⟨0, _, Nat.zero_le _, rfl, hown1, hid (fun i hi => by omega), hb1⟩
  case round =>
    clear hown1 hb1
    obtain ⟨k, zs, hk, rfl, hz, HF, hb⟩ := hrel
    by_cases hlt : k < n
    · obtain ⟨g1, rfl, hg1, hg2, hg3, hg4⟩ := hz.opened (by omega)
      have hgk := hg3 k hlt
      have hgf := hg4 k
      obtain ⟨s1, s2⟩ := hz.set k ((k - 1 : Nat) : Int)
      have HF2 : Hid (FromTo (pbs n) (zs.set k ((k - 1 : Nat) : Int)) (k + 1)) := hid (by
        intro i hi
        rw [nth_set (by rw [hz.len]; exact hlt)]
        by_cases e : k = i
        · subst e; rw [if_pos rfl, HN.out _ hlt]
        · rw [if_neg e]; exact HF.out i (by omega))
      have hb2 := hb.setCell (p := ⟨g1, k, none⟩) hg1 (.int .i64 ((k - 1 : Nat) : Int))
      have hw1 : IntKind.i64.wrap ((k : Int) - 1) = (k : Int) - 1 := by rw [IntKind.wrap_i64]; omega
      clear hg3 hg4
      have he1 : ((k - 1 : Nat) : Int) = max ((k : Int) - 1) 0 := by omega
      rw [he1] at s1 HF2 hb2
      go_wp2_with fail
      go_roundw
      case rel => exact ⟨k + 1, _, by omega, by go_num, s1, HF2, hb2⟩
      case measure => simp [intOf]; omega
    · obtain rfl : k = n := by omega
      have HE : Hid (pbs k = zs) := hid (ext_nth (by rw [HLL.out, hz.len]) fun i hi => (HF.out i (by rw [HLL.out] at hi; exact hi)).symm)
      go_wp2_with fail
      go_ret
      exact ⟨_, _, rfl, by rw [HE.out]; exact hz, hb⟩
theorem nextPrime_any (a : Option Addr) (n cap : Nat) (xs : List Int) (w : World) (h : Has w a n cap xs) (h8 : n ≤ 8) (hx : ∀ i, i < n → 0 ≤ nth xs i ∧ nth xs i ≤ 8) :
    Calls Try.prog 47 #[.slice a n cap] w (PostInts w (nextU (pbs n) xs n)) := by
  have HX := hid hx
  clear hx
  go_enter Try.func47, Try.ntmps47
  go_wp2_with fail
  refine (primeBounds_any n _ h8).mono ?_
  rintro e w1 ⟨a1, cap1, rfl, hown1, hb1⟩
  go_wp2_with fail
  refine (nextU_any _ _ _ _ _ _ _ _ (h.below hb1 (Nat.le_refl _)) hown1.has h8 (fun i hi => by have := HX.out i hi; omega)).mono ?_
  obtain ⟨⟨ys, ok⟩, hr⟩ : ∃ r, nextU (pbs n) xs n = r := ⟨_, rfl⟩
  rw [hr]
  have HR := hid hr
  clear hr
  rintro e w2 ⟨a2, m2, cap2, rfl, hown2, hb2⟩
  go_wp2_with fail
  go_ret2
  exact postInts HR.out (hown2.mono hb1.size) (hb1.trans (hb2.mono hb1.size))

set_option maxHeartbeats 4000000 in
theorem allPrimes_any (n : Nat) (L : List (List Int)) (hch : Chain (fun xs => nextU (pbs n) xs xs.length) L) (h8 : n ≤ 8) (hq : L.length ≤ 100000) (hv : ∀ k, k < L.length → (L.getD k []).length = n ∧ ∀ i, i < n → 0 ≤ nth (L.getD k []) i ∧ nth (L.getD k []) i ≤ 8)
    (w0 w : World) (a : Option Addr) (m cap : Nat) (xs : List Int) (hb0 : Below w0.heap.size w0 w) (hfirst : Own w w0.heap.size a m cap xs) (hx : L.getD 0 [] = xs) :
    Calls Try.prog 46 #[.slice a m cap, .func (.func 47) #[] #[]] w (PostRowsOnly w0 L) := by
  obtain ⟨hL0, hL1, hL2⟩ := hch
  have H1 := hid hL1
  have H2 := hid hL2
  have HV := hid hv
  have HX := hid hx
  clear hL1 hL2 hv hx
  go_enter Try.func46, Try.ntmps46
  go_wp2_with fail
  go_loopw [5, 6, 7] (fun o s b wr => ∃ (k : Nat) (wk : World) (a' : Option Addr) (cap' : Nat) (rs : List Rw) (a1 : Option Addr) (m1 c1 : Nat) (ys : List Int) (ok : Bool), k ≤ L.length ∧ o = .slice a' k cap' ∧ s = .slice a1 m1 c1 ∧ b = .bool ok ∧ Hid (ok = decide (k < L.length)) ∧
    OwnR wk w0.heap.size a' k cap' rs ∧ Hid (numsOf rs = L.take k) ∧ Below wk.heap.size wk wr ∧ w0.heap.size ≤ wk.heap.size ∧ Own wr wk.heap.size a1 m1 c1 ys ∧ Hid (k < L.length → L.getD k [] = ys) ∧ Below w0.heap.size w0 wr) (fun o _ _ _ => L.length + 1 - (match o with | .slice _ k _ => k | _ => 0))
  case atStart => exact ⟨0, w0, none, 0, [], a, m, cap, xs, true, Nat.zero_le _, rfl, rfl, rfl, hid (by simp [hL0]), OwnR.nil _ _, hid rfl, hb0, Nat.le_refl _, hfirst, hid (fun _ => HX.out), hb0⟩
  case round =>
    clear hb0 hfirst
    obtain ⟨k, wk, a', cap', rs, a1, m1, c1, ys, ok, hk, rfl, rfl, rfl, HOK, hrows, HR, hbk, hwk, hys, HY, hb⟩ := hrel
    by_cases hlt : k < L.length
    · obtain rfl : ok = true := by rw [HOK.out]; simp [hlt]
      obtain ⟨v1, v2⟩ := HV.out k hlt
      have hyl := HY.out hlt
      rw [hyl] at v1 v2
      obtain rfl : n = m1 := by rw [← v1]; exact hys.len
      have V2 := hid v2
      have V1 := hid v1
      have HYL := hid hyl
      have HT := hid (take_getD hlt)
      have HR' : Hid (numsOf rs ++ [ys] = L.take (k + 1)) := hid (by rw [HT.out, HR.out, HYL.out])
      have hlen := hrows.len
      have HLEN := hid hlen
      clear v1 v2 hyl hlen
      go_wp2_with (at_builtin; refine wpList_append_row wk wr rfl _ _ rfl w0.heap.size _ _ _ _ _ _ _ _ rfl rfl hrows hbk hys (by omega) hwk ?_; intro a2 cap2 w2 hrows2 hb2)
      have hrow : Has w2 a1 n c1 ys := by
        have := hrows2.has.2.2.2.2.2 k (by omega)
        rw [nthR_append_right (by rw [HLEN.out]; exact Nat.le_refl _), HLEN.out, Nat.sub_self, nthR_one] at this
        simpa [V1.out] using this
      refine (nextPrime_any _ _ _ _ _ hrow h8 V2.out).mono ?_
      have hw2 : w0.heap.size ≤ w2.heap.size := Nat.le_trans (Nat.le_trans hwk hbk.size) hb2.size
      have hbw := hb.trans hb2
      by_cases hk1 : k + 1 < L.length
      · have HF := H1.out k hk1
        rw [HYL.out] at HF
        simp only [V1.out] at HF
        rw [HF]
        rintro e w3 ⟨a3, m3, cap3, rfl, hown3, hb3⟩
        clear HF
        go_wp2_with fail
        go_roundw
        case rel => exact ⟨k + 1, w2, a2, cap2, _, a3, m3, cap3, _, true, by omega, rfl, rfl, rfl, hid (by simp [hk1]), hrows2, hid (by rw [← HR'.out]; simp [numsOf]), hb3, hw2, hown3, hid (fun _ => rfl), hbw.trans (hb3.mono hw2)⟩
        case measure => simp; omega
      · have HF := H2.out
        rw [show L.length - 1 = k by omega, HYL.out] at HF
        simp only [V1.out] at HF
        rw [HF]
        rintro e w3 ⟨a3, m3, cap3, rfl, hown3, hb3⟩
        clear HF
        go_wp2_with fail
        go_roundw
        case rel => exact ⟨k + 1, w2, a2, cap2, _, a3, m3, cap3, _, false, by omega, rfl, rfl, rfl, hid (by simp [hk1]), hrows2, hid (by rw [← HR'.out]; simp [numsOf]), hb3, hw2, hown3, hid (fun h => absurd h hk1), hbw.trans (hb3.mono hw2)⟩
        case measure => simp; omega
    · obtain rfl : ok = false := by rw [HOK.out]; simp [hlt]
      have HE : Hid (numsOf rs = L) := hid (by rw [HR.out, List.take_of_length_le (by omega)])
      go_wp2_with fail
      go_ret
      exact ⟨a', k, cap', rs, rfl, hrows.below hbk (Nat.le_refl _), HE.out, hb⟩


theorem primes_facts {n : Nat} (h0 : 0 < n) (h5 : n ≤ 5) : Chain (fun xs => nextU (pbs n) xs xs.length) ((listL n n []).filter primeB) ∧ ((listL n n []).filter primeB).length ≤ 100000 ∧ ((listL n n []).filter primeB).getD 0 [] = List.replicate n 0 ∧
    ∀ k, k < ((listL n n []).filter primeB).length → (((listL n n []).filter primeB).getD k []).length = n ∧ ∀ i, i < n → 0 ≤ nth (((listL n n []).filter primeB).getD k []) i ∧ nth (((listL n n []).filter primeB).getD k []) i ≤ 8 := by
  obtain ⟨c1, c2, c3, c4⟩ := allB_chain (pbs_bnd n)
  rw [prime_list n (by omega) h0] at c1 c2 c3 c4
  rw [length_pbs] at c2
  have hc : cntB (pbs n) ≤ 100000 := by
    rw [cnt_prime n (by omega) h0]
    rcases (by omega : n = 1 ∨ n = 2 ∨ n = 3 ∨ n = 4 ∨ n = 5) with rfl | rfl | rfl | rfl | rfl <;> decide
  refine ⟨c1, by omega, c2, fun k hk => ?_⟩
  obtain ⟨_, _, d3, d4⟩ := c4 k hk
  rw [length_pbs] at d4
  refine ⟨d4, fun i hi => ?_⟩
  have h1 := und_len (pbs_bnd n) (by rw [length_pbs]; exact d4) d3 _ (nth_mem (xs := ((listL n n []).filter primeB).getD k []) (i := i) (by omega))
  have h2 : numB (pbs n) ≤ 8 := by rcases (by omega : n = 1 ∨ n = 2 ∨ n = 3 ∨ n = 4 ∨ n = 5) with rfl | rfl | rfl | rfl | rfl <;> decide
  omega
theorem allPrime_yes {n : Nat} (h : inB (n : Int) 1 5 = true) : allPrimeOf n = ((listL n n []).filter primeB, true) := by simp [allPrimeOf, h]
theorem allPrime_no {n : Int} (h : ¬ inB n 1 5 = true) : allPrimeOf n = ([], false) := by simp [allPrimeOf, h]
set_option maxHeartbeats 800000 in
theorem implAllPrime_any (n : Int) (w : World) : Calls Try.prog 22 #[.int .i64 n] w (PostRows w (allPrimeOf n)) := by
  by_cases hg : inB n 1 5 = true
  · obtain ⟨m, rfl⟩ : ∃ m : Nat, n = (m : Int) := ⟨n.toNat, by have := inB_iff.1 hg; omega⟩
    obtain ⟨h1, h5⟩ := inB_iff.1 hg
    have HA := hid (allPrime_yes hg)
    obtain ⟨f1, f2, f3, f4⟩ := primes_facts (n := m) (by omega) (by omega)
    have F1 := hid f1
    have F2 := hid f2
    have F3 := hid f3
    have F4 := hid f4
    have h1' : ¬ (m : Int) < 1 := by omega
    have h5' : ¬ (5 : Int) < (m : Int) := by omega
    clear hg f1 f2 f3 f4
    generalize (listL m m []).filter primeB = L at *
    go_enter Try.func22, Try.ntmps22
    go_wp2_with (at_make; refine wpList_make_ints _ rfl _ _ rfl m rfl rfl (by omega) ?_; intro a1 cap1 w1 hown1 hb1)
    refine (allPrimes_any m L F1.out (by omega) F2.out F4.out w w1 _ _ _ _ hb1 hown1 F3.out).mono ?_
    rintro e w6 ⟨a6, q6, cap6, rs6, rfl, hown6, hn6, hb6⟩
    go_wp2_with fail
    go_ret2
    exact postRows HA.out hown6 hn6 hb6
  · have HA := hid (allPrime_no hg)
    have hc := inB_not.1 (Bool.eq_false_iff.2 hg)
    clear hg
    by_cases h1 : n < 1
    · go_enter Try.func22, Try.ntmps22
      go_wp2_with fail
      go_ret2
      exact postRows_no HA.out (Below.refl _ _)
    · have h2 : (5 : Int) < n := by omega
      go_enter Try.func22, Try.ntmps22
      go_wp2_with fail
      go_ret2
      exact postRows_no HA.out (Below.refl _ _)
theorem filter_take_yes {L : List (List Int)} {p : List Int → Bool} {k : Nat} (h : k < L.length) (hp : p (L.getD k []) = true) : (L.take (k + 1)).filter p = (L.take k).filter p ++ [L.getD k []] := by
  rw [take_getD h, List.filter_append, List.filter_cons, if_pos hp]
  rfl
theorem filter_take_no {L : List (List Int)} {p : List Int → Bool} {k : Nat} (h : k < L.length) (hp : p (L.getD k []) = false) : (L.take (k + 1)).filter p = (L.take k).filter p := by
  rw [take_getD h, List.filter_append, List.filter_cons, if_neg (by rw [hp]; simp)]
  exact List.append_nil _
/-- The rows that are kept: some of those before k. -/
def Among9 (rs ss : List Rw) (k : Nat) : Prop := ∀ i, i < ss.length → ∃ j, j < k ∧ nthR ss i = nthR rs j
theorem among_aside {w : World} {B : Nat} {a : Option Addr} {n cap : Nat} {rs ss : List Rw} {k : Nat} (h : OwnR w B a n cap rs) (ha : Among9 rs ss k) (hk : k < n) : Aside ss (nthR rs k).a := fun i hi p q hp hq => by
  obtain ⟨j, hj, e⟩ := ha i hi
  rw [e] at hp
  exact h.2.2.2.2 j k p q hj hk hp hq
theorem among_snoc {rs ss : List Rw} {k : Nat} (ha : Among9 rs ss k) : Among9 rs (ss ++ [nthR rs k]) (k + 1) := fun i hi => by
  by_cases e : i < ss.length
  · rw [nthR_append_left e]
    obtain ⟨j, hj, e2⟩ := ha i e
    exact ⟨j, by omega, e2⟩
  · rw [nthR_append_right (by omega)]
    have : i - ss.length = 0 := by simp at hi; omega
    rw [this, nthR_one]
    exact ⟨k, by omega, rfl⟩
set_option maxHeartbeats 4000000 in
theorem specAllPrime_any (n : Int) (w : World) : Calls Try.prog 21 #[.int .i64 n] w (PostRows w (allPrimeOf n)) := by
  by_cases hg : inB n 1 5 = true
  · obtain ⟨m, rfl⟩ : ∃ m : Nat, n = (m : Int) := ⟨n.toNat, by have := inB_iff.1 hg; omega⟩
    have hm : m ≤ 5 := by have := inB_iff.1 hg; omega
    have HA := hid (allPrime_yes hg)
    have HG := hid hg
    clear hg
    go_enter Try.func21, Try.ntmps21
    go_wp2_with (go_at_call 42; refine (l1In_any _ _ _ _).mono ?_; rintro e w' ⟨rfl, rfl⟩; rw [HG.out])
    refine (cnAll_any m hm m 0 none 0 [] _ (by omega) (Has.nilAt none (by unfold maxLen; omega)) (hid (fun i hi => by omega))).mono ?_
    rintro e w2 ⟨a2, q2, cap2, rs2, rfl, hown2, hn2, hb2⟩
    have hlen := hown2.len
    have hle2 := hown2.le
    have HN2 := hid hn2
    have HLQ : Hid (q2 = (listL m m []).length) := hid (by rw [← hn2]; simp [numsOf, hlen])
    have HLEN := hid hlen
    have HO := hid hown2
    have hlt2 := hown2.lt
    have HLT := hid hlt2
    have hsz2 := hb2.size
    have HC := hown2.has
    clear hn2 hlen hlt2 hown2
    generalize listL m m [] = L at *
    go_wp2_with fail
    go_loopw [4, 13] (fun o i wr => ∃ (k q : Nat) (a' : Option Addr) (cap' : Nat) (ss : List Rw), k ≤ q2 ∧ q ≤ k ∧ i = .int .i64 (k : Int) ∧ o = .slice a' q cap' ∧ OwnR wr w.heap.size a' q cap' ss ∧ BlkGe a' w2.heap.size ∧ Hid (numsOf ss = (L.take k).filter primeB) ∧ Hid (Among9 rs2 ss k) ∧ Below w2.heap.size w2 wr) (fun _ i _ => q2 - (intOf i).toNat)
    case atStart => exact ⟨0, 0, none, 0, [], Nat.zero_le _, Nat.le_refl _, rfl, rfl, OwnR.nil _ _, (fun p hp => by cases hp), hid rfl, hid (fun i hi => by simp at hi), Below.refl _ _⟩
    case round =>
      obtain ⟨k, q, a', cap', ss, hk, hqk, rfl, rfl, hown, hge, HNU, HAM, hb⟩ := hrel
      by_cases hlt : k < q2
      · have hkL : k < L.length := by rw [← HLQ.out]; exact hlt
        have hrow := HO.out.row hlt
        have hrowr := hrow.has.below hb (Nat.le_refl _)
        have hrowo := hrow.below hb (Nat.le_refl _)
        have HXS : Hid ((nthR rs2 k).xs = L.getD k []) := hid (by rw [← HN2.out, numsOf_nth (by rw [HLEN.out]; exact hlt)])
        have FY := hid (fun h => filter_take_yes (p := primeB) hkL h)
        have FN := hid (fun h => filter_take_no (p := primeB) hkL h)
        have AS := hid (among_aside HO.out HAM.out hlt)
        have AS2 := hid (among_snoc HAM.out)
        obtain ⟨b2, off2, rfl, hbb2, hc2⟩ := HC.2.2.2.2.1 (by omega)
        have hck : wr.cell? ⟨b2, off2 + k, none⟩ = some (.slice (nthR rs2 k).a (nthR rs2 k).xs.length (nthR rs2 k).c) := by rw [hb.cell (p := ⟨b2, off2 + k, none⟩) hbb2]; exact hc2 k hlt
        have hbs := hb.size
        obtain ⟨a5, n5, c5, hrk⟩ : ∃ a5 n5 c5, (nthR rs2 k).a = a5 ∧ (nthR rs2 k).xs.length = n5 ∧ (nthR rs2 k).c = c5 := ⟨_, _, _, rfl, rfl, rfl⟩
        obtain ⟨e1, e2, e3⟩ := hrk
        have HRK : Hid (nthR rs2 k = ⟨a5, c5, (nthR rs2 k).xs⟩) := hid (by rw [← e1, ← e3])
        rw [e1, e2, e3] at hck hrowr hrowo
        rw [e1] at AS
        rw [HRK.out] at AS2
        rw [HXS.out] at hrowr hrowo AS2
        clear hc2 hrow e1 e2 e3
        generalize L.getD k [] = ys at *
        by_cases hp : primeB ys = true
        · have HP := hid hp
          have HF := hid (FY.out hp)
          clear hp FY FN
          go_wp2_with fail
          refine (vaPrime_any _ _ _ _ _ hrowr).mono ?_
          rintro e w5 ⟨rfl, hb5⟩
          rw [HP.out]
          go_wp2_with (at_builtin; refine wpList_append_rowA _ rfl _ _ rfl w.heap.size w2.heap.size _ _ _ _ _ _ _ _ rfl rfl (hown.below hb5 (Nat.le_refl _)) (hrowo.below hb5 (Nat.le_refl _) |>.mono (Nat.le_refl _)) AS.out (by omega) hge hsz2 (Nat.le_trans hbs hb5.size) ?_; intro a6 cap6 w6 hown6 hge6 hb6)
          go_roundw
          case rel => exact ⟨k + 1, q + 1, a6, cap6, _, by omega, by omega, by go_num, rfl, hown6, hge6, hid (by rw [numsOf_app, HNU.out, HF.out]; rfl), AS2, (hb.trans (hb5.mono hbs)).trans hb6⟩
          case measure => simp [intOf]; omega
        · have HP := hid hp
          have HF := hid (FN.out (Bool.eq_false_iff.2 hp))
          clear hp FY FN
          go_wp2_with fail
          refine (vaPrime_any _ _ _ _ _ hrowr).mono ?_
          rintro e w5 ⟨rfl, hb5⟩
          rw [Bool.eq_false_iff.2 HP.out]
          go_wp2_with fail
          go_roundw
          case rel => exact ⟨k + 1, q, a', cap', ss, by omega, by omega, by go_num, rfl, hown.below hb5 (Nat.le_refl _), hge, hid (by rw [HNU.out, HF.out]), hid (fun i hi => by obtain ⟨j, hj, e⟩ := HAM.out i hi; exact ⟨j, by omega, e⟩), hb.trans (hb5.mono hbs)⟩
          case measure => simp [intOf]; omega
      · obtain rfl : k = q2 := by omega
        have HF : Hid (numsOf ss = L.filter primeB) := hid (by rw [HNU.out, List.take_of_length_le (by rw [← HLQ.out]; exact Nat.le_refl _)])
        go_wp2_with fail
        go_ret2
        exact postRows HA.out hown HF.out (hb2.trans (hb.mono hsz2))
  · have HA := hid (allPrime_no hg)
    have HG := hid hg
    clear hg
    go_enter Try.func21, Try.ntmps21
    go_wp2_with (go_at_call 42; refine (l1In_any _ _ _ _).mono ?_; rintro e w' ⟨rfl, rfl⟩; rw [Bool.eq_false_iff.2 HG.out])
    go_ret2
    exact postRows_no HA.out (Below.refl _ _)
end Go.Proofs.Ytehdccfkkfkciaa

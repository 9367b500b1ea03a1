/- Chapter 9: the greatest of the greatest distances, by the contracts of the functions. -/
import Derived.Test.YtehdccfkkfkciacMathVg
import Derived.Test.YtehdccfkkfkciacSpecFr
import Derived.Test.YtehdccfkkfkciacReo
import Derived.Test.YtehdccfkkfkciacRowA
import Derived.Test.YtehdccfkkfkciacIdx
import Derived.Test.YtehdccfkkfkciacImplC
import Derived.Test.YtehdccfkkfkciacShelfT
import Derived.Test.YtehdccfkkfkciacPal
import Derived.Laws.IdiomCopy
namespace Go.Proofs.Ytehdccfkkfkciac
open Go.RowKit

/-! ### The library's Delete of one number -/
theorem Own.less {w : World} {B g n cap : Nat} {xs : List Int} (h : Own w B (some ⟨g, 0, none⟩) n cap xs) {k : Nat} (hk : k ≤ n) : Own w B (some ⟨g, 0, none⟩) k cap (xs.take k) := by
  have hl := h.len
  have hle := h.le
  obtain ⟨⟨h1, h2⟩, _⟩ := h
  rcases h2 with ⟨hv, _⟩ | ⟨g', cap', cur, hv, hg, hh, hnc, hcm, hcs, htake⟩
  · simp at hv
  · simp at hv
    obtain ⟨rfl, rfl⟩ := hv
    refine ⟨⟨by simp; omega, .inr ⟨g, cap, cur, rfl, hg, hh, by omega, hcm, hcs, ?_⟩⟩, by simp; omega, by omega⟩
    rw [Nat.mul_one] at htake ⊢
    rw [List.map_take, ← htake, List.take_take, Nat.min_eq_left hk]
set_option maxHeartbeats 400000 in
theorem delete_any (B n : Nat) (a : Option Addr) (cap c : Nat) (xs : List Int) (C C1 : Int) (w : World) (h : Own w B a n cap xs) (hc : c < n) (hC : C = (c : Int)) (hC1 : C1 = ((c + 1 : Nat) : Int)) (hBw : B ≤ w.heap.size) :
    Calls Try.prog 73 #[.slice a n cap, .int .i64 C, .int .i64 C1] w fun e w' => e = .returned (.slice a (n - 1) cap) ∧ Own w' B a (n - 1) cap (xs.eraseIdx c) ∧ Below B w w' := by
  subst hC hC1
  have hl := h.len
  obtain ⟨g, rfl, h1, h2, h3, h4⟩ := h.opened (by omega)
  have hcap : n ≤ cap ∧ cap ≤ maxLen := ⟨h.has.2.1, h.has.2.2.1⟩
  have hd := Try.slices_Delete_int_cells g 0 n cap c (c + 1) xs w (by omega) hcap.1 (by have := hcap.2; unfold maxLen at this; omega) (by omega) (by omega) (fun j hj => by rw [Nat.zero_add]; exact h3 j (by omega)) (fun j hj => by rw [Nat.zero_add]; exact h4 j)
  refine hd.mono ?_
  rintro e w' ⟨rfl, q, rfl⟩
  have hq : Own (w.drewN q) B (some ⟨g, 0, none⟩) n cap xs := h
  obtain ⟨s1, s2⟩ := own_setCells ((xs.take n).take c ++ (xs.take n).drop (c + 1) ++ List.replicate (c + 1 - c) 0) 0 hq
  have e1 : (xs.take n) = xs := List.take_of_length_le (by omega)
  rw [e1] at s1 s2 ⊢
  have e2 : putAll xs 0 (xs.take c ++ xs.drop (c + 1) ++ List.replicate (c + 1 - c) 0) = xs.take c ++ xs.drop (c + 1) ++ List.replicate (c + 1 - c) 0 := by
    rw [putAll_at _ _ _ (by simp; omega)]
    rfl
  rw [e2] at s1
  have s3 := s1.less (k := n - 1) (by omega)
  have e3 : (xs.take c ++ xs.drop (c + 1) ++ List.replicate (c + 1 - c) 0).take (n - 1) = xs.eraseIdx c := by
    rw [List.take_append_of_le_length (by simp; omega), List.take_of_length_le (by simp; omega), List.eraseIdx_eq_take_drop_succ]
  rw [e3] at s3
  refine ⟨by rw [show c + 1 - c = 1 by omega], s3, ?_⟩
  exact (below_drewN (Below.refl B w) q).trans ((Below.refl B _).grown s2 hBw (fun k hk => by simp at hk; omega))

set_option maxHeartbeats 400000 in
theorem withLast_any (n c : Nat) (w : World) (hn : n ≤ 8) (hc : c < n) :
    Calls Try.prog 49 #[.int .i64 (n : Int), .int .i64 (c : Int)] w fun e w' => ∃ a' cap', e = .returned (.slice a' n cap') ∧ Own w' w.heap.size a' n cap' (lastO n c) ∧ Below w.heap.size w w' := by
  have HI : Hid (idx n = upto n) := hid rfl
  have HN : Hid (n - 1 + 1 = n) := hid (by omega)
  have hw1 : IntKind.i64.wrap ((c : Int) + 1) = ((c + 1 : Nat) : Int) := by rw [IntKind.wrap_i64]; omega
  go_enter Try.func49, Try.ntmps49
  go_wp2_with fail
  refine (indices_any n _ (by omega)).mono ?_
  rintro e w1 ⟨a1, c1, rfl, hown1, hb1⟩
  have hsz1 := hb1.size
  go_wp2_with (first | (go_at_call 73; refine (delete_any w.heap.size n _ _ c _ _ _ _ hown1 hc rfl (by omega) hsz1).mono ?_; rintro e w2 ⟨rfl, hown2, hb2⟩) | (at_builtin; refine wpList_append_int _ rfl _ _ rfl w.heap.size _ _ _ _ _ rfl rfl hown2 (by omega) (Nat.le_trans hsz1 hb2.size) ?_; intro a3 c3 w3 hown3 hb3))
  go_ret
  rw [HI.out] at hown3
  rw [HN.out] at hown3 ⊢
  exact ⟨a3, c3, rfl, hown3, (hb1.trans hb2).trans hb3⟩

/-! ### All orders -/
set_option maxHeartbeats 4000000 in
theorem vaOrders_any (n : Nat) (h6 : n ≤ 6) : ∀ (k m : Nat) (a : Option Addr) (cap : Nat) (p : List Int) (w : World), m + k = n → Has w a m cap p →
    Calls Try.prog 47 #[.slice a m cap, .int .i64 (n : Int)] w (PostRowsOnly w (ordersL n k p)) := by
  intro k
  induction k with
  | zero =>
    intro m a cap p w hmk h
    obtain rfl : m = n := by omega
    have hbe : ((m : Int) == (m : Int)) = true := by simp
    have HR : Hid (ordersL m 0 p = [p]) := hid rfl
    go_enter Try.func47, Try.ntmps47
    go_wp2_with fail
    refine (l1Own_any _ _ _ _ _ h).mono ?_
    rintro e w1 ⟨a1, cap1, rfl, hown1, hb1⟩
    have hlit := ownR_lit1 hown1 hb1.size
    have hba := hb1.alloc hb1.size (.cells #[.slice a1 m cap1] 22)
    go_wp2_with fail
    go_ret
    exact ⟨_, _, _, _, rfl, hlit, by rw [HR.out]; rfl, hba⟩
  | succ k ih =>
    intro m a cap p w hmk h
    have IH := hid ih
    have hbe : ((m : Int) == (n : Int)) = false := by simp; omega
    have HLEN := hid h.len
    have HL : Hid (∀ c, c ≤ n → (ordersTo n k p c).length ≤ 46656 ∧ ∀ q : List Int, (ordersL n k q).length ≤ 46656) := hid (fun c hc => by
      have h1 := pow6 n (by omega) (k + 1) (by omega)
      have h2 := length_ordersTo n k p c
      have h3 : c * n ^ k ≤ n * n ^ k := Nat.mul_le_mul_right _ hc
      have h4 := pow6 n (by omega) k (by omega)
      rw [Nat.pow_succ, Nat.mul_comm] at h1
      exact ⟨by omega, fun q => Nat.le_trans (length_orders n k q) h4⟩)
    have HR : Hid (ordersL n (k + 1) p = ordersTo n k p n) := hid rfl
    clear ih
    go_enter Try.func47, Try.ntmps47
    go_wp2_with fail
    go_loopw [5, 6] (fun o x wr => ∃ (c : Nat) (a' : Option Addr) (q cap' : Nat) (rs : List Rw), c ≤ n ∧ x = .int .i64 (c : Int) ∧ o = .slice a' q cap' ∧ OwnR wr w.heap.size a' q cap' rs ∧ Hid (numsOf rs = ordersTo n k p c) ∧ Below w.heap.size w wr) (fun _ x _ => n - (intOf x).toNat)
    case atStart => exact ⟨0, none, 0, 0, [], Nat.zero_le _, rfl, rfl, OwnR.nil _ _, hid rfl, Below.refl _ _⟩
    case round =>
      obtain ⟨c, a', q, cap', rs, hc, rfl, rfl, hown, HNU, hb⟩ := hrel
      by_cases hlt : c < n
      · have hq : q ≤ 46656 := by
          have h1 := numsOf_len hown
          rw [HNU.out] at h1
          have := (HL.out c hc).1
          omega
        have hh := h.below hb (Nat.le_refl _)
        have hszr := hb.size
        by_cases hm : (c : Int) ∈ p
        · have HM := hid (hasB_iff.2 hm)
          have HO := hid (ordersTo_no (n := n) (k := k) hm)
          clear hm
          go_wp2_with (go_at_call 61; refine (l1Has_any _ _ _ _ _ _ hh).mono ?_; rintro e w' ⟨rfl, rfl⟩; rw [HM.out])
          go_roundw
          case rel => exact ⟨c + 1, a', q, cap', rs, by omega, by go_num, rfl, hown, hid (by rw [HNU.out, HO.out]), hb⟩
          case measure => simp [intOf]; omega
        · have HM := hid (hasB_not.2 hm)
          have HO := hid (ordersTo_yes (n := n) (k := k) hm)
          clear hm
          go_wp2_with (go_at_call 61; refine (l1Has_any _ _ _ _ _ _ hh).mono ?_; rintro e w' ⟨rfl, rfl⟩; rw [HM.out])
          refine (l1Own_any _ _ _ _ _ hh).mono ?_
          rintro e w3 ⟨a3, cap3, rfl, hown3, hb3⟩
          go_wp2_with (at_builtin; refine wpList_append_int _ rfl _ _ rfl wr.heap.size _ _ _ _ _ rfl rfl hown3 (by omega) hb3.size ?_; intro a4 cap4 w4 hown4 hb4)
          have hb34 := hb3.trans hb4
          refine (IH.out (m + 1) _ _ _ _ (by omega) hown4.has).mono ?_
          rintro e w5 ⟨a5, q5, cap5, rs5, rfl, hown5, hn5, hb5⟩
          have hb35 := hb34.trans (hb5.mono hb34.size)
          have HN5 := hid hn5
          have hq5 : q5 ≤ 46656 := by
            have h1 := numsOf_len hown5
            rw [hn5] at h1
            have := (HL.out c hc).2 (p ++ [(c : Int)])
            omega
          have hown5' := hown5.mono hb34.size
          clear hn5 hown3 hown4 hb3 hb4 hb5 hb34 hown5
          go_wp2_with (at_builtin; refine wpList_append_rowsAny wr w5 rfl _ _ rfl w.heap.size _ _ _ _ _ _ _ _ rfl rfl hown hb35 hown5' (by omega) hszr ?_; intro a6 q6 cap6 w6 hq6 hown6 hb6)
          go_roundw
          case rel =>
            refine ⟨c + 1, a6, q6, cap6, _, by omega, by go_num, rfl, hown6, hid ?_, (hb.trans (hb35.mono hszr)).trans hb6⟩
            rw [numsOf_app, HNU.out, HN5.out, HO.out]
          case measure => simp [intOf]; omega
      · obtain rfl : n = c := by omega
        go_wp2_with fail
        go_ret
        exact ⟨a', q, cap', rs, rfl, hown, by rw [HR.out, HNU.out], hb⟩

theorem most_yes {xs : List Int} {p : Int} {n : Nat} (hl : xs.length = n) (h : (good xs p && allPark p xs) = true) (h6 : n ≤ 6) : mostGr xs p = (greatAll xs p n, true) := by
  subst hl
  unfold mostGr
  rw [if_pos (by rw [h]; simpa using h6)]
theorem most_no {xs : List Int} {p : Int} (h : ¬ ((good xs p && allPark p xs) = true ∧ xs.length ≤ 6)) : mostGr xs p = (0, false) := by
  unfold mostGr
  rw [if_neg (by simpa using h)]
/-- The k-th order. -/
theorem order_facts {xs : List Int} {p : Int} {n : Nat} (hl : xs.length = n) (h : (good xs p && allPark p xs) = true) (h6 : n ≤ 6) {k : Nat} (hk : k < (ordersL n n []).length) :
    ((ordersL n n []).getD k []).length = n ∧ (∀ i, i < n → ∃ c : Nat, c < n ∧ nth ((ordersL n n []).getD k []) i = (c : Int)) ∧ ∀ i, i < n → 0 ≤ nth (reordL xs ((ordersL n n []).getD k [])) i ∧ nth (reordL xs ((ordersL n n []).getD k [])) i ≤ p - 1 := by
  have hm : (ordersL n n []).getD k [] ∈ ordersL n n [] := by simp [hk]
  have hp : ((ordersL n n []).getD k []).Perm (upto n) := List.isPerm_iff.1 (List.all_eq_true.1 (orders_perm n (by omega)) _ hm)
  have hll : ((ordersL n n []).getD k []).length = n := by rw [hp.length_eq, length_upto]
  refine ⟨hll, fun i hi => ?_, (reord_good hl h hp).2.2⟩
  obtain ⟨c, hc, e⟩ := mem_upto.1 (hp.subset (nth_mem (xs := (ordersL n n []).getD k []) (i := i) (by omega)))
  exact ⟨c, hc, e⟩
theorem map_take_succ {α β : Type} (f : α → β) (d : α) {L : List α} {k : Nat} (h : k < L.length) : (L.map f).take (k + 1) = (L.map f).take k ++ [f (L.getD k d)] := by
  rw [List.take_succ_eq_append_getElem (by simpa using h)]
  simp [h]
theorem great_snoc (ys : List Int) (y : Int) : greatL (ys ++ [y]) = max (greatL ys) y := by simp [greatL, List.foldl_append]
set_option maxHeartbeats 4000000 in
theorem specMost_any (a : Option Addr) (n cap : Nat) (xs : List Int) (p : Int) (w : World) (h : Has w a n cap xs) :
    Calls Try.prog 18 #[.slice a n cap, .int .i64 p] w (PostInt w (mostGr xs p)) := by
  by_cases hg : good xs p = true
  · have HG := hid hg
    obtain ⟨g1, g2, g3, g4⟩ := good_nth hg h.len
    by_cases h6 : n ≤ 6
    · have h6' : ¬ (6 : Int) < (n : Int) := by omega
      by_cases ha : allPark p xs = true
      · have HA := hid ha
        have hga : (good xs p && allPark p xs) = true := by rw [hg, ha]; rfl
        have HR := hid (most_yes h.len hga h6)
        have HOF := hid (fun k (hk : k < (ordersL n n []).length) => order_facts h.len hga h6 hk)
        have HGA : Hid (greatAll xs p n = greatL ((ordersL n n []).map fun os => greatL (dists p (reordL xs os)))) := hid rfl
        clear hg ha hga
        go_enter Try.func18, Try.ntmps18
        go_wp2_with (first | (go_at_call 34; refine (paGood_any _ _ _ _ _ _ h).mono ?_; rintro e w' ⟨rfl, rfl⟩; rw [HG.out]) | (go_at_call 35; refine (paAll_any _ _ _ _ _ _ h g1 g3 g4).mono ?_; rintro e w1 ⟨rfl, hb1⟩; rw [HA.out]))
        refine (vaOrders_any n h6 n 0 none 0 [] _ (by omega) (Has.nilAt none (by unfold maxLen; omega))).mono ?_
        rintro e w2 ⟨a2, q2, cap2, rs2, rfl, hown2, hn2, hb2⟩
        have hle2 := hown2.le
        have HN2 := hid hn2
        have HLEN := hid hown2.len
        have HLQ : Hid (q2 = (ordersL n n []).length) := hid (by rw [← hn2]; simp [numsOf, HLEN.out])
        have HO := hid hown2
        have HC := hown2.has
        have hb12 := hb1.trans (hb2.mono hb1.size)
        have hsz2 := hb12.size
        have HX2 := h.below hb12 (Nat.le_refl _)
        clear hn2 hown2 hb1 hb2
        generalize ordersL n n [] = L at *
        go_wp2_with fail
        go_loopw [6, 28] (fun c i wr => ∃ (k : Nat) (v : Int), k ≤ q2 ∧ i = .int .i64 (k : Int) ∧ c = .int .i64 v ∧ Hid (v = greatL ((L.map fun os => greatL (dists p (reordL xs os))).take k)) ∧ Below w2.heap.size w2 wr) (fun _ i _ => q2 - (intOf i).toNat)
        case atStart => exact ⟨0, 0, Nat.zero_le _, rfl, rfl, hid rfl, Below.refl _ _⟩
        case round =>
          obtain ⟨k, v, hk, rfl, rfl, HV, hb⟩ := hrel
          by_cases hlt : k < q2
          · have hkL : k < L.length := by rw [← HLQ.out]; exact hlt
            obtain ⟨f1, f2, f3⟩ := HOF.out k hkL
            have F2 := hid f2
            have F3 := hid f3
            have HS : Hid (greatL ((L.map fun os => greatL (dists p (reordL xs os))).take (k + 1)) = max (greatL ((L.map fun os => greatL (dists p (reordL xs os))).take k)) (greatL (dists p (reordL xs (L.getD k []))))) := hid (by rw [map_take_succ _ [] hkL, great_snoc])
            have hrow := HO.out.row hlt
            have hrowr := hrow.has.below hb (Nat.le_refl _)
            have HXS : Hid ((nthR rs2 k).xs = L.getD k []) := hid (by rw [← HN2.out, numsOf_nth (by rw [HLEN.out]; exact hlt)])
            obtain ⟨b2, off2, rfl, hbb2, hc2⟩ := HC.2.2.2.2.1 (by omega)
            have hck : wr.cell? ⟨b2, off2 + k, none⟩ = some (.slice (nthR rs2 k).a (nthR rs2 k).xs.length (nthR rs2 k).c) := by rw [hb.cell (p := ⟨b2, off2 + k, none⟩) hbb2]; exact hc2 k hlt
            have hbs := hb.size
            have hn5 : (nthR rs2 k).xs.length = n := by rw [HXS.out, f1]
            obtain ⟨a5, c5, e1, e3⟩ : ∃ a5 c5, (nthR rs2 k).a = a5 ∧ (nthR rs2 k).c = c5 := ⟨_, _, rfl, rfl⟩
            rw [e1, hn5, e3] at hck hrowr
            rw [HXS.out] at hrowr
            have hxr := HX2.below hb (Nat.le_refl _)
            clear hc2 hrow e1 e3 hn5 f1 f2 f3
            generalize L.getD k [] = os at *
            go_wp2_with fail
            refine (vaOrder_any _ _ _ _ _ _ _ _ _ hxr hrowr F2.out).mono ?_
            rintro e w5 ⟨a6, c6, rfl, hown6, hb6⟩
            have hb26 := hb.trans (hb6.mono hbs)
            go_wp2_with fail
            refine (vaGreatest_any _ _ _ _ _ _ hown6.has g1 g3 F3.out).mono ?_
            rintro e w7 ⟨rfl, hb7⟩
            have hb27 := hb26.trans (hb7.mono (Nat.le_trans hbs hb6.size))
            generalize greatL (dists p (reordL xs os)) = gd at *
            go_wp2_with (go_at_call 48; refine (l1Most_any _ _ _).mono ?_; rintro e w' ⟨rfl, rfl⟩)
            go_roundw
            case rel => exact ⟨k + 1, _, by omega, by go_num, rfl, hid (by rw [HS.out, HV.out]), hb27⟩
            case measure => simp [intOf]; omega
          · obtain rfl : k = q2 := by omega
            have HF : Hid (v = greatAll xs p n) := hid (by rw [HV.out, HGA.out, List.take_of_length_le (by rw [List.length_map, ← HLQ.out]; exact Nat.le_refl _)])
            go_wp2_with fail
            go_ret2
            exact postInt (by rw [HR.out, ← HF.out]) (hb12.trans (hb.mono hsz2))
      · have HR := hid (most_no (xs := xs) (p := p) (fun h => ha (Bool.and_eq_true_iff.1 h.1).2))
        have HA := hid ha
        clear hg ha
        go_enter Try.func18, Try.ntmps18
        go_wp2_with (first | (go_at_call 34; refine (paGood_any _ _ _ _ _ _ h).mono ?_; rintro e w' ⟨rfl, rfl⟩; rw [HG.out]) | (go_at_call 35; refine (paAll_any _ _ _ _ _ _ h g1 g3 g4).mono ?_; rintro e w1 ⟨rfl, hb1⟩; rw [Bool.eq_false_iff.2 HA.out]))
        go_ret2
        exact postInt HR.out hb1
    · have h6' : (6 : Int) < (n : Int) := by omega
      have HR := hid (most_no (xs := xs) (p := p) (fun h5 => h6 (by rw [← h.len]; exact h5.2)))
      clear hg
      go_enter Try.func18, Try.ntmps18
      go_wp2_with (go_at_call 34; refine (paGood_any _ _ _ _ _ _ h).mono ?_; rintro e w' ⟨rfl, rfl⟩; rw [HG.out])
      go_ret2
      exact postInt HR.out (Below.refl _ _)
  · have HR := hid (most_no (xs := xs) (p := p) (fun h => hg (Bool.and_eq_true_iff.1 h.1).1))
    have HG := hid hg
    clear hg
    go_enter Try.func18, Try.ntmps18
    go_wp2_with (go_at_call 34; refine (paGood_any _ _ _ _ _ _ h).mono ?_; rintro e w' ⟨rfl, rfl⟩; rw [Bool.eq_false_iff.2 HG.out])
    go_ret2
    exact postInt HR.out (Below.refl _ _)

theorem last_facts {xs : List Int} {p : Int} {n c : Nat} (hl : xs.length = n) (h : (good xs p && allPark p xs) = true) (hc : c < n) : (∀ i, i < n → ∃ c' : Nat, c' < n ∧ nth (lastO n c) i = (c' : Int)) ∧ distsOf (reordL xs (lastO n c)) p = (dists p (reordL xs (lastO n c)), true) ∧ (dists p (reordL xs (lastO n c))).length = n := by
  have hp := lastO_perm hc
  have hll := length_lastO hc
  refine ⟨fun i hi => ?_, dists_yes (reord_park h (by rw [hl]; exact hp)), by rw [length_dists, length_reord, hll]⟩
  obtain ⟨c', hc', e⟩ := mem_upto.1 (hp.subset (nth_mem (xs := lastO n c) (i := i) (by omega)))
  exact ⟨c', hc', e⟩
set_option maxHeartbeats 4000000 in
theorem implMost_any (a : Option Addr) (n cap : Nat) (xs : List Int) (p : Int) (w : World) (h : Has w a n cap xs) :
    Calls Try.prog 19 #[.slice a n cap, .int .i64 p] w (PostInt w (mostGr xs p)) := by
  by_cases hga : (good xs p && allPark p xs) = true
  · have HD := hid (drive_yes hga)
    by_cases h6 : n ≤ 6
    · have h6' : ¬ (6 : Int) < (n : Int) := by omega
      have HR : Hid (mostGr xs p = (greatLast xs p n, true)) := hid (by rw [most_yes h.len hga h6, great_same h.len h6 hga])
      have HLF := hid (fun c (hc : c < n) => last_facts h.len hga hc)
      have HGL : Hid (greatLast xs p n = greatL ((List.range n).map fun c => lastD xs p n c)) := hid rfl
      clear hga
      go_enter Try.func19, Try.ntmps19
      go_wp2_with fail
      refine (driveCars_any _ _ _ _ _ _ h).mono ?_
      rw [HD.out]
      rintro e w1 ⟨a1, m1, cap1, rfl, hown1, hb1⟩
      clear hown1
      have hsz1 := hb1.size
      have HX1 := h.below hb1 (Nat.le_refl _)
      go_wp2_with fail
      go_loopw [8, 27] (fun g i wr => ∃ (k : Nat) (v : Int), k ≤ n ∧ i = .int .i64 (k : Int) ∧ g = .int .i64 v ∧ Hid (v = greatL (((List.range n).map fun c => lastD xs p n c).take k)) ∧ Below w1.heap.size w1 wr) (fun _ i _ => n - (intOf i).toNat)
      case atStart => exact ⟨0, 0, Nat.zero_le _, rfl, rfl, hid rfl, Below.refl _ _⟩
      case round =>
        obtain ⟨k, v, hk, rfl, rfl, HV, hb⟩ := hrel
        by_cases hlt : k < n
        · obtain ⟨f1, f2, f3⟩ := HLF.out k hlt
          have F1 := hid f1
          have F2 := hid f2
          have F3 := hid f3
          have HS : Hid (greatL (((List.range n).map fun c => lastD xs p n c).take (k + 1)) = max (greatL (((List.range n).map fun c => lastD xs p n c).take k)) (nth (dists p (reordL xs (lastO n k))) (n - 1))) := hid (by
            rw [map_take_succ _ 0 (by simpa using hlt), great_snoc]
            simp [hlt, lastD])
          have hbs := hb.size
          have hxr := HX1.below hb (Nat.le_refl _)
          clear f1 f2 f3
          go_wp2_with fail
          refine (withLast_any n k _ (by omega) hlt).mono ?_
          rintro e w3 ⟨a3, c3, rfl, hown3, hb3⟩
          have hb13 := hb.trans (hb3.mono hbs)
          go_wp2_with fail
          refine (reordered_any _ _ _ _ _ _ _ _ _ (hxr.below hb3 (Nat.le_refl _)) hown3.has F1.out).mono ?_
          rintro e w4 ⟨a4, c4, rfl, hown4, hb4⟩
          have hb14 := hb13.trans (hb4.mono (Nat.le_trans hbs hb3.size))
          have hsz4 : w1.heap.size ≤ w4.heap.size := hb14.size
          go_wp2_with fail
          refine (distancesOf_any _ _ _ _ _ _ hown4.has).mono ?_
          rw [F2.out]
          rintro e w5 ⟨a5, m5, c5, rfl, hown5, hb5⟩
          obtain rfl : n = m5 := by rw [← F3.out]; exact hown5.len
          have hb15 := hb14.trans (hb5.mono hsz4)
          obtain ⟨g5, rfl, q1, q2, q3, q4⟩ := hown5.opened (by omega)
          have hck := q3 (n - 1) (by omega)
          have hn1 : ((n - 1 : Nat) : Int) = (n : Int) - 1 := by omega
          have hw1 : IntKind.i64.wrap ((n : Int) - 1) = ((n - 1 : Nat) : Int) := by rw [IntKind.wrap_i64]; omega
          have z1 : ((n - 1 : Nat) : Int) < (n : Int) := by omega
          have z0 : (0 : Int) ≤ ((n - 1 : Nat) : Int) := by omega
          clear q3 q4 hown5 hown4 hown3 F2 F3
          replace hck : w5.cell? ⟨g5, n - 1, none⟩ = some (.int .i64 (nth (dists p (reordL xs (lastO n k))) (n - 1))) := hck
          generalize nth (dists p (reordL xs (lastO n k))) (n - 1) = gd at *
          obtain ⟨t, ht⟩ : ∃ t, t = n - 1 := ⟨_, rfl⟩
          rw [← ht] at hck hn1 hw1 z1 z0
          have he : (n : Int) - 1 = (t : Int) := hn1.symm
          clear ht hn1
          go_wp2_with fail
          go_roundw
          case rel => exact ⟨k + 1, _, by omega, by go_num, rfl, hid (by rw [HS.out, HV.out]), hb15⟩
          case measure => simp [intOf]; omega
        · obtain rfl : k = n := by omega
          have HF : Hid (v = greatLast xs p k) := hid (by rw [HV.out, HGL.out, List.take_of_length_le (by simp)])
          go_wp2_with fail
          go_ret2
          exact postInt (by rw [HR.out, ← HF.out]) (hb1.trans (hb.mono hsz1))
    · have h6' : (6 : Int) < (n : Int) := by omega
      have HR := hid (most_no (xs := xs) (p := p) (fun h5 => h6 (by rw [← h.len]; exact h5.2)))
      clear hga
      go_enter Try.func19, Try.ntmps19
      go_wp2_with fail
      refine (driveCars_any _ _ _ _ _ _ h).mono ?_
      rw [HD.out]
      rintro e w1 ⟨a1, m1, cap1, rfl, hown1, hb1⟩
      go_wp2_with fail
      go_ret2
      exact postInt HR.out hb1
  · have HR := hid (most_no (xs := xs) (p := p) (fun h => hga h.1))
    have HD := hid (drive_no hga)
    clear hga
    go_enter Try.func19, Try.ntmps19
    go_wp2_with fail
    refine (driveCars_any _ _ _ _ _ _ h).mono ?_
    rw [HD.out]
    rintro e w1 ⟨a1, m1, cap1, rfl, hown1, hb1⟩
    go_wp2_with fail
    go_ret2
    exact postInt HR.out hb1
end Go.Proofs.Ytehdccfkkfkciac

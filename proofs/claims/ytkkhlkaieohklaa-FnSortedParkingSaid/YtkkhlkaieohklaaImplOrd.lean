/- In how many orders a list can stand: the program's functions, by their contracts. -/
import Derived.Test.YtkkhlkaieohklaaSortF
import Derived.Test.YtkkhlkaieohklaaSpecOrd
import Derived.Test.YtkkhlkaieohklaaImplN
namespace Go.Proofs.Ytkkhlkaieohklaa
open Go.RowKit

theorem Try.infoWish : (Try.prog.info? 66).map (fun i => (i.zero, i.size, i.bytes)) = some (some (.int .i64 0), 1, 8) := by kernel_rfl
theorem cells_add {w : World} {b off n : Nat} {us : List Value} (h : ∀ i, i < n → w.cell? ⟨b, off + i, none⟩ = us[i]?) (hl : us.length = n) : ∀ j v, us[j]? = some v → w.cell? ⟨b, off + j, none⟩ = some v := by
  intro j v hv
  have hj := (List.getElem?_eq_some_iff.1 hv).1
  rw [h j (by omega), hv]

/-- 'slices.Clone(wishes)'. -/
theorem cloneWishes_any (b off n cap : Nat) (xs : List Int) (w : World) (hc : ∀ i, i < n → w.cell? ⟨b, off + i, none⟩ = (xs.map (Value.int .i64))[i]?) (hl : xs.length = n) (hn : n ≤ 1000) :
    Calls Try.prog 81 #[.slice (some ⟨b, off, none⟩) n cap] w fun e w' =>
      ∃ g cap', e = .returned (.slice (some ⟨g, 0, none⟩) n cap') ∧ OwnE 66 w' w.heap.size (some ⟨g, 0, none⟩) n cap' (xs.map (Value.int .i64)) ∧ Below w.heap.size w w' := by
  obtain ⟨i0, hi, hz0, hz1, hz2⟩ := info_parts Try.infoWish
  refine (Try.slices_Clone_f81 i0 (.int .i64 0) 1 8 hi hz0 hz1 hz2 rfl (by decide) Try.sizeOf66 b off n cap (xs.map (Value.int .i64)) w (by simp [hl]) (by unfold maxLen; omega) (by omega) (cells_add hc (by simp [hl])) (by intro v hv; obtain ⟨y, _, rfl⟩ := List.mem_map.1 hv; rfl)).mono ?_
  rintro e w' ⟨v', rfl, hown, hne, hb⟩
  rcases hown.2 with ⟨hv, _⟩ | ⟨g, cap', cur, hv, _⟩
  · exact absurd hv hne
  · subst hv
    exact ⟨g, cap', rfl, ⟨hown, by simp [hl], by omega⟩, hb⟩

theorem runs_le (s : List Int) : ∀ k i, 0 ≤ nth (runsTo s k) i ∧ nth (runsTo s k) i ≤ k
  | 0, i => by simp [runsTo, nth]
  | k + 1, i => by
    have ih := runs_le s k
    simp only [runsTo]
    split
    · by_cases e : i < (runsTo s k).length
      · rw [nth_append_left e]; have := ih i; omega
      · by_cases e2 : i = (runsTo s k).length
        · subst e2; rw [nth_append_at]; omega
        · have : nth (runsTo s k ++ [1]) i = 0 := by simp [nth, List.getElem?_append, e, show ¬ i - (runsTo s k).length = 0 by omega]
          omega
    · by_cases h0 : (runsTo s k).length = 0
      · have : runsTo s k = [] := List.eq_nil_of_length_eq_zero h0
        rw [this]
        simp [nth]
        omega
      · rw [nth_set (by omega)]
        split
        · have := ih ((runsTo s k).length - 1); omega
        · have := ih i; omega
theorem set_last0 (rs : List Int) : (rs ++ [0]).set rs.length 1 = rs ++ [1] := by
  rw [List.set_append_right _ _ (Nat.le_refl _)]
  simp

set_option maxRecDepth 100000 in
set_option maxHeartbeats 4000000 in
theorem countAlikeW_any (b off n cap : Nat) (xs : List Int) (w : World) (hc : ∀ i, i < n → w.cell? ⟨b, off + i, none⟩ = (xs.map (Value.int .i64))[i]?) (hl : xs.length = n) (hn : n ≤ 8) :
    Calls Try.prog 59 #[.slice (some ⟨b, off, none⟩) n cap, .func (.func 60) #[] #[]] w fun e w' =>
      ∃ a' q cap', e = .returned (.slice a' q cap') ∧ Own w' w.heap.size a' q cap' (runsTo (insSort xs) n) ∧ Below w.heap.size w w' := by
  have HC := hid hc
  have HL := hid hl
  clear hc hl
  go_enter Try.func59, Try.ntmps59
  go_wp2_with fail
  refine (cloneWishes_any b off n cap xs w HC.out HL.out (by omega)).mono ?_
  rintro e w1 ⟨g, cap1, rfl, ho1, hb1⟩
  go_wp2_with fail
  refine (sortWishes_any _ _ _ _ _ _ ho1).mono ?_
  rintro e w2 ⟨rfl, ho2, hg2⟩
  have hgl := ho2.lt
  have hb2 : Below w.heap.size w w2 := hb1.trans (below_grown hg2 hb1.size (by intro k hk; cases hk; exact ho1.lt.1))
  have hsz := hb2.size
  have hsl : (insSort xs).length = n := by rw [length_insSort]; exact HL.out
  have HCELL : Hid (∀ i, i < n → w2.cell? ⟨g, i, none⟩ = some (.int .i64 (nth (insSort xs) i))) := hid (fun i hi => by
    rw [ho2.cell hi]
    simp [nth, hsl, hi])
  have HSL := hid hsl
  have HSORT := hid (insSort_sorted xs)
  have HRL := hid (runs_le (insSort xs))
  have HRP := hid (length_runsTo (insSort xs))
  clear ho1 ho2 hb1 hg2 hsl
  go_wp2_with fail
  go_loopw [6, 16] (fun o i wr => ∃ (k : Nat) (a' : Option Addr) (q cap' : Nat), k ≤ n ∧ i = .int .i64 (k : Int) ∧ o = .slice a' q cap' ∧ Own wr w2.heap.size a' q cap' (runsTo (insSort xs) k) ∧ Below w2.heap.size w2 wr) (fun _ i _ => n - (intOf i).toNat)
  case atStart => exact ⟨0, none, 0, 0, Nat.zero_le _, rfl, rfl, Own.nil _ _, Below.refl _ _⟩
  case round =>
    obtain ⟨k, a', q, cap', hk, rfl, rfl, hown, hb⟩ := hrel
    have hq := hown.len
    obtain ⟨q1, q2⟩ := HRP.out k
    rw [hq] at q1 q2
    have HQ := hid hq
    have hszr := hb.size
    clear hq
    by_cases hlt : k < n
    · have hck : wr.cell? ⟨g, k, none⟩ = some (.int .i64 (nth (insSort xs) k)) := by rw [hb.cell (p := ⟨g, k, none⟩) hgl.2]; exact HCELL.out k hlt
      have hkn : (k : Int) < (n : Int) := by omega
      by_cases hnew : k = 0 ∨ nth (insSort xs) (k - 1) ≠ nth (insSort xs) k
      · have HS : Hid (runsTo (insSort xs) (k + 1) = runsTo (insSort xs) k ++ [1]) := hid (by simp only [runsTo]; rw [if_pos hnew])
        have HL0 : Hid ((runsTo (insSort xs) k ++ [0]).set q 1 = runsTo (insSort xs) k ++ [1]) := hid (by rw [← HQ.out]; exact set_last0 _)
        have HLZ : Hid (nth (runsTo (insSort xs) k ++ [0]) q = 0) := hid (by rw [← HQ.out]; exact nth_append_at)
        rcases Nat.eq_zero_or_pos k with h0 | h0
        · subst h0
          go_wp2_with (at_builtin; refine wpList_append_int _ rfl _ _ rfl w2.heap.size _ _ _ _ _ rfl rfl hown (by omega) hszr ?_; intro a4 cap4 w4 hown4 hb4; obtain ⟨g4, rfl, hl1, hl2, hl3, hl4⟩ := hown4.opened (by omega); have hgk := hl3 q (by omega); rw [HLZ.out] at hgk; have hgf := hl4 q; clear hl3 hl4)
          go_roundw
          case rel =>
            obtain ⟨s1, s2⟩ := hown4.set q 1
            rw [HL0.out] at s1
            exact ⟨1, some ⟨g4, 0, none⟩, q + 1, cap4, by omega, by go_num, rfl, by rw [HS.out]; exact s1, (hb.trans hb4).setCell hl1 _⟩
          case measure => simp [intOf]; omega
        · have hck1 : wr.cell? ⟨g, k - 1, none⟩ = some (.int .i64 (nth (insSort xs) (k - 1))) := by rw [hb.cell (p := ⟨g, k - 1, none⟩) hgl.2]; exact HCELL.out (k - 1) (by omega)
          have hbe : ((k : Int) == 0) = false := by simp; omega
          have e1 : ((k : Int) - 1).toNat = k - 1 := by omega
          have e2 : (0 : Int) ≤ (k : Int) - 1 := by omega
          have e3 : (k : Int) - 1 < (n : Int) := by omega
          have HCM : Hid ((cmpI (nth (insSort xs) (k - 1)) (nth (insSort xs) k) != 0) = true) := hid (by
            have hne := hnew.resolve_left (by omega)
            unfold cmpI
            split
            · rfl
            · split
              · rfl
              · exact absurd (show nth (insSort xs) (k - 1) = nth (insSort xs) k by omega) hne)
          clear hnew
          go_wp2_with fail
          refine (wishCompare_any _ _ _).mono ?_
          rintro e _ ⟨rfl, rfl⟩
          have hcm := HCM.out
          generalize cmpI (nth (insSort xs) (k - 1)) (nth (insSort xs) k) = cv at *
          go_wp2_with (at_builtin; refine wpList_append_int _ rfl _ _ rfl w2.heap.size _ _ _ _ _ rfl rfl hown (by omega) hszr ?_; intro a4 cap4 w4 hown4 hb4; obtain ⟨g4, rfl, hl1, hl2, hl3, hl4⟩ := hown4.opened (by omega); have hgk := hl3 q (by omega); rw [HLZ.out] at hgk; have hgf := hl4 q; clear hl3 hl4)
          go_roundw
          case rel =>
            obtain ⟨s1, s2⟩ := hown4.set q 1
            rw [HL0.out] at s1
            exact ⟨k + 1, some ⟨g4, 0, none⟩, q + 1, cap4, by omega, by go_num, rfl, by rw [HS.out]; exact s1, (hb.trans hb4).setCell hl1 _⟩
          case measure => simp [intOf]; omega
      · have hk0 : 0 < k := by omega
        have hq0 : 0 < q := q2 hk0
        have HS : Hid (runsTo (insSort xs) (k + 1) = (runsTo (insSort xs) k).set (q - 1) (nth (runsTo (insSort xs) k) (q - 1) + 1)) := hid (by simp only [runsTo]; rw [if_neg hnew, HQ.out])
        have hck1 : wr.cell? ⟨g, k - 1, none⟩ = some (.int .i64 (nth (insSort xs) (k - 1))) := by rw [hb.cell (p := ⟨g, k - 1, none⟩) hgl.2]; exact HCELL.out (k - 1) (by omega)
        have hbe : ((k : Int) == 0) = false := by simp; omega
        have e1 : ((k : Int) - 1).toNat = k - 1 := by omega
        have e2 : (0 : Int) ≤ (k : Int) - 1 := by omega
        have e3 : (k : Int) - 1 < (n : Int) := by omega
        have HCM : Hid ((cmpI (nth (insSort xs) (k - 1)) (nth (insSort xs) k) != 0) = false) := hid (by
          have he : nth (insSort xs) (k - 1) = nth (insSort xs) k := Classical.byContradiction fun h => hnew (.inr h)
          rw [he]
          simp [cmpI])
        obtain ⟨g4, rfl, hl1, hl2, hl3, hl4⟩ := hown.opened hq0
        have hgk := hl3 (q - 1) (by omega)
        have hgf := hl4 (q - 1)
        obtain ⟨r0, r1⟩ := HRL.out k (q - 1)
        have f1 : ((q : Int) - 1).toNat = q - 1 := by omega
        have f2 : (0 : Int) ≤ (q : Int) - 1 := by omega
        have f3 : (q : Int) - 1 < (q : Int) := by omega
        clear hnew hl3 hl4
        generalize nth (runsTo (insSort xs) k) (q - 1) = rv at *
        go_wp2_with fail
        refine (wishCompare_any _ _ _).mono ?_
        rintro e _ ⟨rfl, rfl⟩
        have hcm := HCM.out
        generalize cmpI (nth (insSort xs) (k - 1)) (nth (insSort xs) k) = cv at *
        go_wp2_with fail
        go_roundw
        case rel =>
          obtain ⟨s1, s2⟩ := hown.set (q - 1) (rv + 1)
          exact ⟨k + 1, some ⟨g4, 0, none⟩, q, cap', by omega, by go_num, rfl, by rw [HS.out]; exact s1, hb.setCell hl1 _⟩
        case measure => simp [intOf]; omega
    · obtain rfl : n = k := by omega
      go_wp2_with fail
      go_ret
      exact ⟨_, _, _, rfl, hown.mono hsz, hb2.trans (hb.mono hsz)⟩

/-! ### Groups -/
theorem groups_cars (gs : List Int) : (groups gs).2 = (gs.map Int.toNat).sum := by
  have : ∀ (gs : List Int) (r : Nat × Nat), (gs.foldl (fun r g => (r.1 * chs (r.2 + g.toNat) g.toNat, r.2 + g.toNat)) r).2 = r.2 + (gs.map Int.toNat).sum := by
    intro gs
    induction gs with
    | nil => intro r; simp
    | cons g gs ih => intro r; simp only [List.foldl_cons, List.map_cons, List.sum_cons]; rw [ih]; simp only; omega
  have h := this gs (1, 0)
  simpa [groups] using h
theorem groups_take_le (gs : List Int) (k : Nat) : (groups (gs.take k)).2 ≤ (groups gs).2 := by
  rw [groups_cars, groups_cars]
  conv => rhs; rw [← List.take_append_drop k gs]
  rw [List.map_append, List.sum_append]
  omega
theorem groups_succ {gs : List Int} {k : Nat} (h : k < gs.length) : groups (gs.take (k + 1)) = ((groups (gs.take k)).1 * chs ((groups (gs.take k)).2 + (nth gs k).toNat) (nth gs k).toNat, (groups (gs.take k)).2 + (nth gs k).toNat) := by
  rw [take_succ_nth h, groups_snoc]
theorem groups_small {gs : List Int} (h : (groups gs).2 ≤ 8) : (groups gs).1 ≤ 40320 := by
  have h1 := groups_fct _ gs rfl (by omega)
  have h2 : ∀ n, n < 9 → fct n ≤ 40320 := by decide
  have h3 := h2 (groups gs).2 (by omega)
  have h4 : 0 < fcts gs := by
    unfold fcts
    have : ∀ (gs : List Int) (r : Nat), 0 < r → 0 < gs.foldl (fun r g => r * fct g.toNat) r := by
      intro gs
      induction gs with
      | nil => intro r hr; exact hr
      | cons g gs ih => intro r hr; exact ih _ (Nat.mul_pos hr (fct_pos _))
    exact this gs 1 (by omega)
  have := Nat.le_mul_of_pos_right (groups gs).1 h4
  omega
theorem occs_nonneg (s : List Int) (m : Nat) : ∀ x ∈ occs s m, 0 ≤ x := by
  intro x hx
  unfold occs at hx
  obtain ⟨v, _, rfl⟩ := List.mem_map.1 (List.mem_filter.1 hx).1
  unfold occ
  omega
theorem orders_runs {xs : List Int} {n : Nat} (hp : isPark xs = true) (hn : xs.length = n) : runsTo (insSort xs) n = occs xs n ∧ ordersOf xs = (((groups (occs xs n)).1 : Int), true) ∧ (groups (occs xs n)).2 = n ∧ n ≤ 8 := by
  obtain ⟨h8, hb⟩ := isPark_bounds hp
  have hb' : ∀ x ∈ xs, 0 ≤ x ∧ x < (n : Int) := fun x hx => by have := hb x hx; omega
  have hperm := insSort_perm xs
  have h1 := runs_all (s := insSort xs) (m := n) (insSort_sorted xs) (fun x hx => hb' x (hperm.mem_iff.1 hx))
  rw [length_insSort, hn, occs_perm hperm] at h1
  refine ⟨h1, by rw [ordersOf_yes hp hn]; rfl, ?_, by omega⟩
  rw [groups_sum, sum_counts xs hb', hn]

set_option maxRecDepth 100000 in
set_option maxHeartbeats 4000000 in
theorem countOrders_any (a : Option Addr) (n cap : Nat) (xs : List Int) (w : World) (h : Has w a n cap xs) :
    Calls Try.prog 27 #[.slice a n cap] w (PostInt w (ordersOf xs)) := by
  by_cases hg : isPark xs = true
  · obtain ⟨hr, hR, hcars, h8⟩ := orders_runs hg h.len
    have HR := hid hR
    have HRUN := hid hr
    have HLEN := hid h.len
    have HCARS : Hid (∀ k, (groups ((occs xs n).take k)).2 ≤ 8) := hid (fun k => by have := groups_take_le (occs xs n) k; omega)
    have HNN := hid (occs_nonneg xs n)
    have HG := hid hg
    obtain ⟨i0, hi, hz0, hz1, hz2⟩ := info_parts Try.infoWish
    clear hg hr hR hcars
    go_enter Try.func27, Try.ntmps27
    go_wp2_with (first | (go_at_call 49; refine (isParkingFunction_any _ _ _ _ _ h).mono ?_; rintro e w0 ⟨rfl, hb0⟩; rw [HG.out]) | (refine wpList_make_full (P := Try.prog) _ rfl _ _ 65 rfl w0.heap.size 66 i0 (.int .i64 0) 1 Try.underlying65 hi hz0 hz1 .i64 .i64 n n n rfl rfl rfl rfl (by rw [hz2]; omega) (by unfold maxLen; omega) (Nat.le_refl _) ?_; intro w1 hown1 hgr1))
    have hb1 : Below w0.heap.size w0 w1 := below_grown hgr1 (Nat.le_refl _) (by simp)
    have ho1 : OwnE 66 w1 w0.heap.size (some ⟨w0.heap.size, 0, none⟩) n n ((List.replicate n 0).map (Value.int .i64)) := by
      refine ⟨?_, by simp, by omega⟩
      rw [show (Value.int IntKind.i64 0).cells = #[.int .i64 0] from rfl, toList_madeCells_one, Nat.mul_one] at hown1
      simpa using hown1
    have hb01 := hb0.trans (hb1.mono hb0.size)
    have hgl := ho1.lt
    have hg0 := hb0.size
    generalize w0.heap.size = g at *
    clear hgr1 hown1 hb1
    go_loopw [19] (fun i wr => ∃ (k : Nat) (zs : List Int), k ≤ n ∧ i = .int .i64 (k : Int) ∧ OwnE 66 wr g (some ⟨g, 0, none⟩) n n (zs.map (Value.int .i64)) ∧ zs.length = n ∧ Hid (FromTo xs zs k) ∧ Below w.heap.size w wr ∧ g < wr.heap.size) (fun i _ => n - (intOf i).toNat)
    case atStart => exact ⟨0, _, Nat.zero_le _, rfl, ho1, by simp, hid (fun i hi => by omega), hb01, hgl.2⟩
    case round =>
      clear ho1 hb01 hgl
      obtain ⟨k, zs, hk, rfl, hz, hzl, HF, hb, hgw⟩ := hrel
      have HZL := hid hzl
      clear hzl
      by_cases hlt : k < n
      · obtain ⟨b, off, rfl, hbb, hc⟩ := h.2.2.2.2 (by omega)
        have hck : wr.cell? ⟨b, off + k, none⟩ = some (.int .i64 (nth xs k)) := by rw [hb.cell (p := ⟨b, off + k, none⟩) hbb]; exact hc k hlt
        have hgk : wr.cell? ⟨g, k, none⟩ = some (.int .i64 (nth zs k)) := by rw [hz.cell hlt]; simp [nth, HZL.out, hlt]
        have hgf := hz.1.frozenAt k
        clear hc
        go_wp2_with fail
        go_roundw
        case rel =>
          obtain ⟨s1, s2⟩ := hz.1.stored k (.int .i64 (nth xs k))
          refine ⟨k + 1, zs.set k (nth xs k), by omega, by go_num, ⟨by rw [List.map_set]; exact s1, by simp [HZL.out], by omega⟩, by simp [HZL.out], hid ?_, hb.setCell hg0 _, by simpa using hgw⟩
          intro i hi
          rw [nth_set (by rw [HZL.out]; omega)]
          split
          · subst_vars; rfl
          · exact HF.out i (by omega)
        case measure => simp [intOf]; omega
      · obtain rfl : n = k := by omega
        have HE : Hid (zs = xs) := hid (ext_nth (by rw [HZL.out, HLEN.out]) (fun i hi => HF.out i (by rw [HZL.out] at hi; exact hi)))
        rw [HE.out] at hz
        have hcell : ∀ i, i < n → wr.cell? ⟨g, 0 + i, none⟩ = (xs.map (Value.int .i64))[i]? := fun i hi => by rw [Nat.zero_add]; exact hz.cell hi
        have HCELL := hid hcell
        clear hcell
        go_wp2_with fail
        refine (countAlikeW_any g 0 n n xs _ HCELL.out HLEN.out h8).mono ?_
        rintro e w5 ⟨a5, q, cap5, rfl, ho5, hb5⟩
        rw [HRUN.out] at ho5
        have hbw := hb.trans (hb5.mono hb.size)
        obtain ⟨hq, -, -, hqle, h4⟩ := ho5.has
        have HQ := hid hq
        have HH := hid h4
        have HALL := hid (show groups ((occs xs n).take q) = groups (occs xs n) by rw [List.take_of_length_le (by omega)])
        have HGS := hid (fun k (hk : k < q) => groups_succ (gs := occs xs n) (k := k) (by omega))
        have HSM := hid (fun k => groups_small (gs := (occs xs n).take k) (HCARS.out k))
        have HNT := hid (fun k (hk : k < q) => HNN.out _ (nth_mem (xs := occs xs n) (i := k) (by omega)))
        generalize occs xs n = gs at *
        clear hz hb hb5 ho5 hq h4 hgw
        go_wp2_with fail
        go_loop [7, 8, 32] (fun c r i => ∃ k : Nat, k ≤ q ∧ i = .int .i64 (k : Int) ∧ c = .int .i64 ((groups (gs.take k)).1 : Int) ∧ r = .int .i64 ((groups (gs.take k)).2 : Int)) (fun _ _ i => q - (intOf i).toNat)
        case atStart => exact ⟨0, Nat.zero_le _, rfl, rfl, rfl⟩
        case round =>
          obtain ⟨k, hk, rfl, rfl, rfl⟩ := hrel
          by_cases hlt : k < q
          · obtain ⟨b, off, rfl, hbb, hc⟩ := HH.out (by omega)
            have hck := hc k hlt
            have hnn := HNT.out k hlt
            obtain ⟨x, hx⟩ : ∃ x : Nat, nth gs k = (x : Int) := ⟨(nth gs k).toNat, by omega⟩
            have hgs := HGS.out k hlt
            rw [hx, Int.toNat_natCast] at hgs
            have h1 := HCARS.out (k + 1)
            have h2 := HSM.out (k + 1)
            have h3 := HSM.out k
            rw [hgs] at h1 h2
            simp only at h1 h2
            rw [hx] at hck
            have HGS1 : Hid (((groups (gs.take (k + 1))).1 : Int) = ((groups (gs.take k)).1 : Int) * (chs ((groups (gs.take k)).2 + x) x : Int)) := hid (by rw [hgs, ← Int.natCast_mul])
            have HGS2 : Hid ((groups (gs.take (k + 1))).2 = (groups (gs.take k)).2 + x) := hid (by rw [hgs])
            have p1 : ((groups (gs.take k)).1 : Int) * (chs ((groups (gs.take k)).2 + x) x : Int) ≤ 40320 := by rw [← Int.natCast_mul]; exact Int.ofNat_le.2 h2
            have p0 : 0 ≤ ((groups (gs.take k)).1 : Int) * (chs ((groups (gs.take k)).2 + x) x : Int) := by rw [← Int.natCast_mul]; exact Int.natCast_nonneg _
            clear hc hgs hx h2 hnn
            generalize (groups (gs.take k)).1 = c1 at *
            generalize (groups (gs.take k)).2 = c2 at *
            go_wp2_with (go_at_call 57; refine (binomial_at (c2 + x) x _ _ _ (by omega) rfl (by omega) (by omega)).mono ?_; rintro e w' ⟨rfl, rfl⟩)
            go_round
            case rel => exact ⟨k + 1, by omega, by go_num, by rw [HGS1.out], by rw [HGS2.out]; go_num⟩
            case measure => simp [intOf]; omega
          · obtain rfl : q = k := by omega
            go_wp2_with fail
            go_ret2
            exact postInt (by rw [HR.out, HALL.out]) hbw
  · have HR := hid (ordersOf_no hg)
    have HG := hid hg
    clear hg
    go_enter Try.func27, Try.ntmps27
    go_wp2_with (go_at_call 49; refine (isParkingFunction_any _ _ _ _ _ h).mono ?_; rintro e w0 ⟨rfl, hb0⟩; rw [Bool.eq_false_iff.2 HG.out])
    go_ret2
    exact postInt HR.out hb0
end Go.Proofs.Ytkkhlkaieohklaa

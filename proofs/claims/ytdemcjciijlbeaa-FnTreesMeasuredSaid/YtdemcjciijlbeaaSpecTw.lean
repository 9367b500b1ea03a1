/- The model's DepthsOf and BelowCounts, and slices.Clone of integers. -/
import Derived.Test.YtdemcjciijlbeaaSpecTv
import Derived.Test.YtdemcjciijlbeaaMathBe
namespace Go.Proofs.Ytdemcjciijlbeaa
open Go.RowKit

set_option maxHeartbeats 400000 in
theorem cloneT_any (a : Option Addr) (n cap : Nat) (xs : List Int) (w : World) (h : Has w a n cap xs) :
    Calls Try.prog 25 #[.slice a n cap] w fun e w' => ∃ a' cap', e = .returned (.slice a' n cap') ∧ Own w' w.heap.size a' n cap' xs ∧ Below w.heap.size w w' := by
  have hle := h.le
  have hb0 : Below w.heap.size w (w.alloc (.cells #[] 3)) := (Below.refl _ _).alloc (Nat.le_refl _) _
  have qn : ∀ (w : World) (a : Option Addr) (n c n' c' : Nat), (binOp .eql 24 (.slice a n c) (.slice none n' c')).run Try.prog w = .ok (.bool a.isNone) w := fun w a n c n' c' => Lib.run_eql_slice_nil w _ _ a n c n' c' Try.underlying24
  cases a with
  | none =>
    have hn : n = 0 := by
      apply Classical.byContradiction
      intro hne
      obtain ⟨b, off, hbo, _⟩ := h.2.2.2.2 (by omega)
      cases hbo
    subst hn
    have hx : xs = [] := List.eq_nil_of_length_eq_zero h.len
    subst hx
    go_enter Try.func25, Try.ntmps25
    go_wp2_with fail
    go_ret
    exact ⟨_, _, rfl, Own.nil _ _, Below.refl _ _⟩
  | some p =>
    go_enter Try.func25, Try.ntmps25
    go_wp2_with (at_builtin; refine wpList_append_ints _ rfl _ _ rfl w.heap.size _ _ _ _ _ _ [] xs rfl rfl (own_lit0 w _ (Nat.le_refl _)) (h.below hb0 (Nat.le_refl _)) (by omega) (by simp) ?_; intro a2 n2 cap2 w2 hn2 hown2 hb2)
    go_ret
    obtain rfl : n2 = n := by omega
    exact ⟨_, _, rfl, by simpa using hown2, hb0.trans hb2⟩

def depL (xs : List Int) : List Int := (List.range xs.length).map fun (i : Nat) => (dep xs ((i : Int) + 1) : Int)
def depOf (xs : List Int) : List Int × Bool := if treeB xs then (depL xs, true) else ([], false)
theorem length_depL (xs : List Int) : (depL xs).length = xs.length := by simp [depL]
theorem nth_depL {xs : List Int} {i : Nat} (h : i < xs.length) : nth (depL xs) i = (dep xs ((i : Int) + 1) : Int) := by simp [nth, depL, h]
theorem depL_succ {xs : List Int} {k : Nat} (h : k < xs.length) : (depL xs).take (k + 1) = (depL xs).take k ++ [(dep xs ((k : Int) + 1) : Int)] := by
  rw [take_succ_nth (by rw [length_depL]; exact h), nth_depL h]
theorem length_abv (xs : List Int) (v : Int) : (abv xs v).length = dep xs v := by simp [abv, length_upTo]

set_option maxHeartbeats 1000000 in
theorem specDepths_any (a : Option Addr) (n cap : Nat) (xs : List Int) (w : World) (h : Has w a n cap xs) :
    Calls Try.prog 10 #[.slice a n cap] w (PostInts w (depOf xs)) := by
  have HL := hid h.len
  by_cases hg : treeB xs = true
  · have HR : Hid (depOf xs = (depL xs, true)) := hid (by simp [depOf, hg])
    have ht := tree_of hg h.len
    have h8 := ht.le
    have HT := hid ht
    have HG := hid hg
    clear hg ht
    go_enter Try.func10, Try.ntmps10
    go_wp2_with (go_at_call 22; refine (trGood_any _ _ _ _ _ h).mono ?_; rintro e w' ⟨rfl, rfl⟩; rw [HG.out])
    go_loopw [4, 11] (fun o i wr => ∃ (k : Nat) (a' : Option Addr) (cap' : Nat), k ≤ n ∧ i = .int .i64 k ∧ o = .slice a' k cap' ∧ Own wr w.heap.size a' k cap' ((depL xs).take k) ∧ Below w.heap.size w wr) (fun _ i _ => n - (intOf i).toNat)
    case atStart => exact ⟨0, none, 0, by omega, rfl, rfl, Own.nil _ _, Below.refl _ _⟩
    case round =>
      obtain ⟨k, a', cap', hk, rfl, rfl, hown, hb⟩ := hrel
      by_cases hlt : k < n
      · have HS := hid (depL_succ (xs := xs) (k := k) (by rw [HL.out]; exact hlt))
        have eq1 : Hid (((k + 1 : Nat) : Int) = (k : Int) + 1) := hid (by omega)
        go_wp2_with fail
        refine (trAbove_at _ _ _ _ (k + 1) _ _ (by omega) (h.below hb (Nat.le_refl _)) HT.out (by omega)).mono ?_
        rintro e w2 ⟨a2, m2, cap2, rfl, hown2, hb2⟩
        rw [eq1.out] at hown2
        have HM : Hid (m2 = dep xs ((k : Int) + 1)) := hid (by rw [← hown2.len, length_abv])
        have hm2 : m2 ≤ 8 := by have := (HT.out.dep (v := (k : Int) + 1) (by omega) (by omega)).2.2; rw [HM.out]; omega
        have hownX := hown.below hb2 (Nat.le_refl _)
        have hle := Nat.le_trans hb.size hb2.size
        go_wp2_with (at_builtin; refine wpList_append_int _ rfl _ _ rfl w.heap.size _ _ _ _ _ rfl rfl hownX (by omega) hle ?_; intro a3 cap3 w3 hown3 hb3)
        go_roundw
        case rel => exact ⟨k + 1, a3, cap3, by omega, by go_num, rfl, by rw [HS.out, ← HM.out]; exact hown3, (hb.trans (hb2.mono hb.size)).trans hb3⟩
        case measure => simp [intOf]; omega
      · obtain rfl : k = n := by omega
        go_wp2_with fail
        go_ret2
        exact postInts HR.out (by rw [List.take_of_length_le (by rw [length_depL, HL.out]; omega)] at hown; exact hown) hb
  · have HR : Hid (depOf xs = ([], false)) := hid (by simp [depOf, hg])
    have HG := hid (Bool.eq_false_iff.2 hg)
    clear hg
    go_enter Try.func10, Try.ntmps10
    go_wp2_with (go_at_call 22; refine (trGood_any _ _ _ _ _ h).mono ?_; rintro e w' ⟨rfl, rfl⟩; rw [HG.out])
    go_ret2
    exact postInts_no HR.out (Below.refl _ _)

theorem nth_upTo {xs : List Int} {v : Int} {k j : Nat} (h : j < k) : nth (upTo xs v k) j = up xs v (j + 1) := by simp [nth, upTo, h]
theorem nth_abv {xs : List Int} {v : Int} {j : Nat} (h : j < dep xs v) : nth (abv xs v) j = up xs v (j + 1) := nth_upTo h

set_option maxHeartbeats 2000000 in
theorem specBelow_any (a : Option Addr) (n cap : Nat) (xs : List Int) (w : World) (h : Has w a n cap xs) :
    Calls Try.prog 12 #[.slice a n cap] w (PostInts w (belOf xs)) := by
  have HL := hid h.len
  by_cases hg : treeB xs = true
  · have HR : Hid (belOf xs = (belL xs, true)) := hid (by simp [belOf, hg])
    have ht := tree_of hg h.len
    have h8 := ht.le
    have HT := hid ht
    have HG := hid hg
    have HC : Hid ((n : Int) + 1 = ((n + 1 : Nat) : Int)) := hid (by omega)
    clear hg ht
    go_enter Try.func12, Try.ntmps12
    go_wp2_with (first | (go_at_call 22; refine (trGood_any _ _ _ _ _ h).mono ?_; rintro e w' ⟨rfl, rfl⟩; rw [HG.out]) | (at_make; refine wpList_make_ints _ rfl _ _ rfl (n + 1) (by rw [← HC.out]; rfl) (by rw [← HC.out]; rfl) (by omega) ?_; intro a1 cap1 w1 hown1 hb1))
    go_loopw [17] (fun i wr => ∃ (k : Nat) (ys : List Int), k ≤ n ∧ i = .int .i64 k ∧ Own wr w.heap.size a1 (n + 1) cap1 ys ∧ BelAt xs ys (n + 1) k 0 ∧ Below w.heap.size w wr) (fun i _ => n - (intOf i).toNat)
    case atStart => exact ⟨0, _, by omega, rfl, hown1, belAt_zero (by rw [HL.out]; omega), hb1⟩
    case round =>
      obtain ⟨k, ys, hk, rfl, hown, hbe, hb⟩ := hrel
      clear hown1 hb1
      have HBE := hid hbe
      clear hbe
      by_cases hlt : k < n
      · have eq1 : Hid (((k + 1 : Nat) : Int) = (k : Int) + 1) := hid (by omega)
        go_wp2_with fail
        refine (trAbove_at _ _ _ _ (k + 1) _ _ (by omega) (h.below hb (Nat.le_refl _)) HT.out (by omega)).mono ?_
        rintro e w2 ⟨a2, m2, cap2, rfl, hown2, hb2⟩
        rw [eq1.out] at hown2
        have HM : Hid (m2 = dep xs ((k : Int) + 1)) := hid (by rw [← hown2.len, length_abv])
        have hm2 : m2 ≤ 8 := by have := (HT.out.dep (v := (k : Int) + 1) (by omega) (by omega)).2.2; rw [HM.out]; omega
        have hownX := hown.below hb2 (Nat.le_refl _)
        have hbX := hb.trans (hb2.mono hb.size)
        have hlt2 : ∀ p, a2 = some p → wr.heap.size ≤ p.block := fun p hp => by subst hp; exact (hown2.1.lt p.block rfl).1
        have hle2 := hb2.size
        have hlt1 : ∀ p, a1 = some p → p.block < wr.heap.size := fun p hp => by subst hp; exact (hown.1.lt p.block rfl).2
        have HLT2 := hid hlt2
        have HLT1 := hid hlt1
        obtain ⟨wo, rfl⟩ : ∃ wo : World, wo = wr := ⟨_, rfl⟩
        clear hown hlt2 hlt1 hb hb2
        go_wp2_with fail
        go_loopw [25] (fun i wr => ∃ (q : Nat) (ys : List Int), q ≤ m2 ∧ i = .int .i64 q ∧ Own wr w.heap.size a1 (n + 1) cap1 ys ∧ Own wr wo.heap.size a2 m2 cap2 (abv xs ((k : Int) + 1)) ∧ BelAt xs ys (n + 1) k q ∧ Below w.heap.size w wr) (fun i _ => m2 - (intOf i).toNat)
        case atStart => exact ⟨0, ys, by omega, rfl, hownX, hown2, HBE.out, hbX⟩
        case round =>
          clear hownX hown2 hbX HBE
          obtain ⟨q, ys, hq, rfl, hown, hown2, hbe, hb⟩ := hrel
          have HBE := hid hbe
          clear hbe
          by_cases hql : q < m2
          · obtain ⟨g, rfl, hg1, hg2, hg3, hg4⟩ := hown.opened (by omega)
            obtain ⟨g2, rfl, hh1, hh2, hh3, hh4⟩ := hown2.opened (by omega)
            have hgl := HLT1.out _ rfl
            have hhq := hh3 q hql
            rw [nth_abv (by rw [← HM.out]; exact hql)] at hhq
            have hbd := HT.out.up_bounds (v := (k : Int) + 1) (by omega) (by omega) (q + 1)
            obtain ⟨u, hu⟩ : ∃ u : Nat, up xs ((k : Int) + 1) (q + 1) = (u : Int) := ⟨(up xs ((k : Int) + 1) (q + 1)).toNat, by omega⟩
            rw [hu] at hhq hbd
            have hun : u ≤ n := by omega
            have hgu := hg3 u (by omega)
            have hgf := hg4 u
            have hsm := HBE.out.small u (by omega)
            have hps := belAt_pos HBE.out (v := u) (by omega)
            have HS := hid (belAt_step HBE.out (u := u) (by omega) hu)
            obtain ⟨y1, y2⟩ := hown.set u (nth ys u + 1)
            have hown2' := hown2.kept y2 (.inl hgl)
            have hq64 : nth ys u ≤ 1000 := by omega
            clear hg3 hg4 hh3 hh4 hu hbd hsm
            go_wp2_with fail
            go_roundw
            case rel => exact ⟨q + 1, _, by omega, by go_num, y1, hown2', HS.out, hb.setCell hg1 _⟩
            case measure => simp [intOf]; omega
          · obtain rfl : q = m2 := by omega
            have HS := hid (belAt_next HBE.out hm2 HM.out.symm)
            go_wp2_with fail
            go_roundw
            case rel => exact ⟨k + 1, ys, by omega, by go_num, hown, HS.out, hb⟩
            case measure => simp [intOf]; omega
      · obtain rfl : k = n := by omega
        have HF : Hid (ys = belL xs) := hid (by
          have := belAt_all (xs := xs) (ys := ys) (m := k + 1) (by rw [HL.out]; exact HBE.out)
          rw [← this, HL.out, List.take_of_length_le (by rw [hown.len]; omega)])
        go_wp2_with fail
        go_ret2
        exact postInts HR.out (by rw [← HF.out]; exact hown) hb
  · have HR : Hid (belOf xs = ([], false)) := hid (by simp [belOf, hg])
    have HG := hid (Bool.eq_false_iff.2 hg)
    clear hg
    go_enter Try.func12, Try.ntmps12
    go_wp2_with (go_at_call 22; refine (trGood_any _ _ _ _ _ h).mono ?_; rintro e w' ⟨rfl, rfl⟩; rw [HG.out])
    go_ret2
    exact postInts_no HR.out (Below.refl _ _)
end Go.Proofs.Ytdemcjciijlbeaa

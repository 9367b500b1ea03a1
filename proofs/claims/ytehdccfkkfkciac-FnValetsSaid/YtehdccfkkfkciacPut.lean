/- The model's numbers put in their places, by its contract. -/
import Derived.Test.YtehdccfkkfkciacSpecO
import Derived.Test.YtehdccfkkfkciacSpecS
import Derived.Test.YtehdccfkkfkciacMathPu
import Derived.Deep.LoopGhost
namespace Go.Proofs.Ytehdccfkkfkciac
open Go.RowKit

theorem own_lit1 (w : World) (B : Nat) (x : Int) (hB : B ≤ w.heap.size) : Own (w.alloc (.cells #[.int .i64 x] 3)) B (some ⟨w.heap.size, 0, none⟩) 1 1 [x] :=
  ⟨World.ownsRow_lit w #[.int .i64 x] 1 hB (by unfold maxLen; omega) (by simp), by simp⟩

set_option maxHeartbeats 1000000 in
theorem l1Put_any (B : Nat) (a : Option Addr) (n cap : Nat) (xs : List Int) (x : Int) (w : World) (h : Own w B a n cap xs) (hn : n ≤ 1000) (hB : B ≤ w.heap.size) :
    Calls Try.prog 39 #[.slice a n cap, .int .i64 x] w fun e w' => ∃ a' m cap', e = .returned (.slice a' m cap') ∧ Own w' B a' m cap' (putL xs x) ∧ Below w.heap.size w w' := by
  have HL := hid h.len
  have hb0 : Below w.heap.size w (w.alloc (.cells #[] 3)) := (Below.refl _ _).alloc (Nat.le_refl _) _
  cases a with
  | none =>
    obtain ⟨hk1, hcap1, hnil⟩ := h.noneOf
    subst hk1 hcap1 hnil
    clear h
    go_enter Try.func39, Try.ntmps39
    go_wp2_with fail
    refine wp_loop_rounds 1 ?_
    rw [rounds_succ]
    go_wp2_with (first | (at_builtin; refine wpList_append_ints _ rfl _ _ rfl w.heap.size _ none _ _ _ _ _ [] rfl rfl hown3 (Has.empty none (by omega) (by omega)) (by omega) (Nat.le_trans hb2.size hb3.size) ?_; intro a4 n4 cap4 w4 hn4 hown4 hb4) | (at_builtin; refine wpList_append_int _ rfl _ _ rfl w.heap.size _ _ _ _ _ rfl rfl hown2 (by omega) hb2.size ?_; intro a3 cap3 w3 hown3 hb3) | (at_builtin; refine wpList_append_ints _ rfl _ _ rfl w.heap.size _ none _ _ _ _ [] [] rfl rfl (own_lit0 w _ (Nat.le_refl _)) (Has.empty none (by omega) (by omega)) (by omega) (by simp) ?_; intro a2 n2 cap2 w2 hn2 hown2' hb2'; have hb2 := hb0.trans (hb2'.mono (Nat.le_refl _)); replace hn2 : n2 = 0 := hn2; subst hn2; have hown2 : Own w2 w.heap.size a2 0 cap2 [] := hown2'; clear hb2' hown2'))
    go_ret
    exact ⟨_, _, _, rfl, (hown4.mono hB).relen (by omega) (by simp [putL]), (hb2.trans hb3).trans hb4⟩
  | some p =>
    obtain ⟨g, rfl, hg1, hg2, hg3, hg4, hkc⟩ := h.someOf
    have HA := h.has
    go_enter Try.func39, Try.ntmps39
    go_wp2_with fail
    go_loop [5] (fun q => ∃ j : Nat, j ≤ n ∧ q = .int .i64 j ∧ Hid (∀ t, t < j → nth xs t < x)) (fun q => n - (intOf q).toNat)
    case atStart => exact ⟨0, by omega, rfl, hid (fun t ht => by omega)⟩
    case round =>
      obtain ⟨j, hj, rfl, HJ⟩ := hrel
      have FIN : Hid ((j = n ∨ x ≤ nth xs j) → putL xs x = if j < n ∧ nth xs j = x then xs else xs.take j ++ [x] ++ xs.drop j) :=
        hid (fun HX => by
          have := putL_at j xs (by rw [HL.out]; exact hj) HJ.out (by rw [HL.out]; exact HX)
          rwa [HL.out] at this)
      by_cases hjn : j < n
      · have hjc := hg3 j hjn
        have hjn' : (j : Int) < (n : Int) := by omega
        by_cases hlt : nth xs j < x
        · have HLT := hid hlt
          go_wp2_with fail
          go_round
          case rel => exact ⟨j + 1, by omega, by go_num, hid (fun t ht => by rcases Nat.lt_succ_iff_lt_or_eq.1 ht with h1 | rfl; exact HJ.out t h1; exact HLT.out)⟩
          case measure => simp [intOf]; omega
        · have HF := FIN.out (.inr (by omega))
          by_cases he : nth xs j = x
          · rw [if_pos ⟨hjn, he⟩] at HF
            replace HF := hid HF
            have hbe : (nth xs j == x) = true := by simp [he]
            have HE := hid he
            clear he FIN
            go_wp2_with fail
            go_ret
            exact ⟨_, _, _, rfl, by rw [HF.out]; exact h, Below.refl _ _⟩
          · rw [if_neg (fun hh => he hh.2)] at HF
            replace HF := hid HF
            have hbe : (nth xs j == x) = false := by simp [he]
            have HE := hid he
            have hcj : ¬ cap = j := by omega
            have hd0 := HA.drop (k := j) (by omega)
            rw [Nat.zero_add] at hd0
            have hblk : ∀ p, (some ⟨g, j, none⟩ : Option Addr) = some p → p.block < w.heap.size := fun p hp => by cases hp; exact hg2
            have HBK := hid hblk
            clear he FIN hblk hg3 hg4
            go_wp2_with (first | (at_builtin; refine wpList_append_ints _ rfl _ _ rfl w.heap.size _ _ _ _ _ _ _ _ rfl rfl hown3 ((hd0.below hb2 (Nat.le_refl _)).belowB hb3 HBK.out) (by omega) (Nat.le_trans hb2.size hb3.size) ?_; intro a4 n4 cap4 w4 hn4 hown4 hb4) | (at_builtin; refine wpList_append_int _ rfl _ _ rfl w.heap.size _ _ _ _ _ rfl rfl hown2 (by omega) hb2.size ?_; intro a3 cap3 w3 hown3 hb3) | (at_builtin; refine wpList_append_ints _ rfl _ _ rfl w.heap.size _ _ _ _ _ _ [] (xs.take j) rfl rfl (own_lit0 w _ (Nat.le_refl _)) ((HA.take (k := j) (by omega)).below hb0 (Nat.le_refl _)) (by omega) (by simp) ?_; intro a2 n2 cap2 w2 hn2 hown2' hb2'; have hb2 := hb0.trans (hb2'.mono (Nat.le_refl _)); replace hn2 : j = n2 := (hn2.trans (Nat.zero_add _)).symm; subst hn2; have hown2 : Own w2 w.heap.size a2 j cap2 (xs.take j) := hown2'; clear hb2' hown2'))
            go_ret
            exact ⟨_, _, _, rfl, (hown4.mono hB).relen (by omega) HF.out, (hb2.trans hb3).trans hb4⟩
      · obtain rfl : n = j := by omega
        have HF := FIN.out (.inl rfl)
        rw [if_neg (fun hh => hjn hh.1), List.drop_eq_nil_of_le (by rw [HL.out]; omega)] at HF
        replace HF := hid HF
        clear FIN hg3 hg4 hjn
        by_cases hcj : cap = n
        · obtain rfl : n = cap := hcj.symm
          clear hcj
          go_wp2_with (first | (at_builtin; refine wpList_append_ints _ rfl _ _ rfl w.heap.size _ _ _ _ _ _ _ [] rfl rfl hown3 (Has.nilAt _ (by unfold maxLen; omega)) (by omega) (Nat.le_trans hb2.size hb3.size) ?_; intro a4 n4 cap4 w4 hn4 hown4 hb4) | (at_builtin; refine wpList_append_int _ rfl _ _ rfl w.heap.size _ _ _ _ _ rfl rfl hown2 (by omega) hb2.size ?_; intro a3 cap3 w3 hown3 hb3) | (at_builtin; refine wpList_append_ints _ rfl _ _ rfl w.heap.size _ _ _ _ _ _ [] (xs.take n) rfl rfl (own_lit0 w _ (Nat.le_refl _)) ((HA.take (k := n) (by omega)).below hb0 (Nat.le_refl _)) (by omega) (by simp) ?_; intro a2 n2 cap2 w2 hn2 hown2' hb2'; have hb2 := hb0.trans (hb2'.mono (Nat.le_refl _)); replace hn2 : n = n2 := (hn2.trans (Nat.zero_add _)).symm; subst hn2; have hown2 : Own w2 w.heap.size a2 n cap2 (xs.take n) := hown2'; clear hb2' hown2'))
          go_ret
          exact ⟨_, _, _, rfl, (hown4.mono hB).relen (by omega) HF.out, (hb2.trans hb3).trans hb4⟩
        · have hcm : cap ≤ maxLen := HA.2.2.1
          have hcj' : ¬ (cap : Int) = (n : Int) := by omega
          go_wp2_with (first | (at_builtin; refine wpList_append_ints _ rfl _ _ rfl w.heap.size _ _ _ _ _ _ _ [] rfl rfl hown3 (Has.nilAt _ (by omega)) (by omega) (Nat.le_trans hb2.size hb3.size) ?_; intro a4 n4 cap4 w4 hn4 hown4 hb4) | (at_builtin; refine wpList_append_int _ rfl _ _ rfl w.heap.size _ _ _ _ _ rfl rfl hown2 (by omega) hb2.size ?_; intro a3 cap3 w3 hown3 hb3) | (at_builtin; refine wpList_append_ints _ rfl _ _ rfl w.heap.size _ _ _ _ _ _ [] (xs.take n) rfl rfl (own_lit0 w _ (Nat.le_refl _)) ((HA.take (k := n) (by omega)).below hb0 (Nat.le_refl _)) (by omega) (by simp) ?_; intro a2 n2 cap2 w2 hn2 hown2' hb2'; have hb2 := hb0.trans (hb2'.mono (Nat.le_refl _)); replace hn2 : n = n2 := (hn2.trans (Nat.zero_add _)).symm; subst hn2; have hown2 : Own w2 w.heap.size a2 n cap2 (xs.take n) := hown2'; clear hb2' hown2'))
          go_ret
          exact ⟨_, _, _, rfl, (hown4.mono hB).relen (by omega) HF.out, (hb2.trans hb3).trans hb4⟩

end Go.Proofs.Ytehdccfkkfkciac

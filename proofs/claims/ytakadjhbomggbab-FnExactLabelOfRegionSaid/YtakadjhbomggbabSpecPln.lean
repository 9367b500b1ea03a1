/- Points and their labels: the model's functions, by contract. -/
import Derived.Test.YtakadjhbomggbabMathPl
import Derived.Test.YtakadjhbomggbabSpecA
import Derived.Test.YtakadjhbomggbabSpecC
import Derived.Test.YtakadjhbomggbabHelp
import Derived.BigQuiet
import Derived.IntWalk
namespace Go.Proofs.Ytakadjhbomggbab
open Go.RowKit

theorem point_noQ {xs : List Int} {n i s : Nat} (hn : xs.length = n) (h1 : i < s) (h2 : s < n) (h : nth xs i = nth xs s ∨ nth xs i - nth xs s = 100) : pointB xs = false := by
  subst hn
  rw [Bool.eq_false_iff]
  intro e
  have := pairPt_iff.1 (pointB_iff.1 e).2.2 s i h2 h1
  omega
theorem point_yesQ {xs : List Int} {n : Nat} (hn : xs.length = n) (h8 : n ≤ 8) (ha : allB xs (-100000) 100000 = true) (h : ∀ i s, i < s → s < n → ¬ nth xs i = nth xs s ∧ ¬ nth xs i - nth xs s = 100) : pointB xs = true := by
  subst hn
  exact pointB_iff.2 ⟨h8, ha, pairPt_iff.2 (fun s i a b => by have := h i s b a; omega)⟩
set_option maxRecDepth 100000 in
set_option maxHeartbeats 1600000 in
theorem rePoint_any (a : Option Addr) (n cap : Nat) (xs : List Int) (w : World) (h : Has w a n cap xs) :
    Calls Try.prog 45 #[.slice a n cap] w fun e w' => e = .returned (.bool (pointB xs)) ∧ Quiet w w' := by
  have HL := hid h.len
  by_cases h8 : n ≤ 8
  · have h82 : ¬ (8 : Int) < (n : Int) := by omega
    by_cases ha : allB xs (-100000) 100000 = true
    · have HA := hid ha
      clear ha
      go_enter Try.func45, Try.ntmps45
      go_wp2_with (go_at_call 73; refine (l1All_any _ _ _ _ _ _ _ h).mono ?_; rintro e w' ⟨rfl, rfl⟩; rw [HA.out])
      go_loopw [15] (fun i wr => ∃ k : Nat, k ≤ n ∧ i = .int .i64 (k : Int) ∧ Hid (∀ i s, i < k → i < s → s < n → ¬ nth xs i = nth xs s ∧ ¬ nth xs i - nth xs s = 100) ∧ Quiet w wr) (fun i _ => n - (intOf i).toNat)
      case atStart => exact ⟨0, by omega, rfl, hid (fun i s hi => by omega), ⟨0, rfl⟩⟩
      case round =>
        obtain ⟨k, hk, rfl, HK, hq⟩ := hrel
        by_cases hkn : k < n
        · go_wp2_with fail
          go_loopw [4] (fun j wr => ∃ s : Nat, k + 1 ≤ s ∧ s ≤ n ∧ j = .int .i64 (s : Int) ∧ Hid (∀ q, k < q → q < s → ¬ nth xs k = nth xs q ∧ ¬ nth xs k - nth xs q = 100) ∧ Quiet w wr) (fun j _ => n - (intOf j).toNat)
          case atStart => exact ⟨k + 1, by omega, by omega, by go_num, hid (fun q a b => by omega), hq⟩
          case round =>
            clear hq
            obtain ⟨s, hs1, hs2, rfl, HS, hq⟩ := hrel
            by_cases hsn : s < n
            · obtain ⟨q0, hq0⟩ := hq
              subst hq0
              obtain ⟨b0, off, rfl, hbb, hc⟩ := h.2.2.2.2 (by omega)
              have c1 := hc k hkn
              have c2 := hc s hsn
              have r1 := allB_nth HA.out (k := k) (by rw [HL.out]; exact hkn)
              have r2 := allB_nth HA.out (k := s) (by rw [HL.out]; exact hsn)
              have hwr : IntKind.i64.wrap (nth xs k - nth xs s) = nth xs k - nth xs s := IntWalk.i64_in _ (by omega)
              have HNO := hid (fun hx => point_noQ (xs := xs) (n := n) (i := k) (s := s) HL.out (by omega) hsn hx)
              have HNX := hid (fun (hx : ¬ nth xs k = nth xs s ∧ ¬ nth xs k - nth xs s = 100) => (fun q (a : k < q) (b : q < s + 1) => by
                by_cases e : q = s
                · subst e; exact hx
                · exact HS.out q a (by omega) : ∀ q, k < q → q < s + 1 → ¬ nth xs k = nth xs q ∧ ¬ nth xs k - nth xs q = 100))
              have hkn2 : (k : Int) < (n : Int) := by omega
              have hk0 : (0 : Int) ≤ (k : Int) := by omega
              have hsn2 : (s : Int) < (n : Int) := by omega
              have hs0 : (0 : Int) ≤ (s : Int) := by omega
              clear hc r1 r2
              generalize nth xs k = u at *
              generalize nth xs s = v at *
              by_cases e1 : u = v
              · have HR := hid (HNO.out (.inl e1))
                have hb1 : (u == v) = true := by simp [e1]
                go_wp2_with fail
                go_quiet (fail)
                go_wp2_with fail
                go_ret
                exact ⟨ret_bool HR.out.symm, Quiet.more ⟨q0, rfl⟩ _⟩
              · have hb1 : (u == v) = false := by simp [e1]
                by_cases e2 : u - v = 100
                · have HR := hid (HNO.out (.inr e2))
                  have hb2 : (u - v == 100) = true := by simp [e2]
                  go_wp2_with fail
                  go_quiet (fail)
                  go_wp2_with fail
                  go_ret
                  exact ⟨ret_bool HR.out.symm, Quiet.more ⟨q0, rfl⟩ _⟩
                · have hb2 : (u - v == 100) = false := by simp [e2]
                  have HN := hid (HNX.out ⟨e1, e2⟩)
                  go_wp2_with fail
                  go_quiet (fail)
                  go_wp2_with fail
                  go_roundw
                  case rel => exact ⟨s + 1, by omega, by omega, by go_num, HN, ⟨_, rfl⟩⟩
                  case measure => simp [intOf]; omega
            · obtain rfl : s = n := by omega
              have HN : Hid (∀ i q, i < k + 1 → i < q → q < s → ¬ nth xs i = nth xs q ∧ ¬ nth xs i - nth xs q = 100) := hid (fun i q a b c => by
                by_cases e : i = k
                · subst e; exact HS.out q b c
                · exact HK.out i q (by omega) b c)
              go_wp2_with fail
              go_roundw
              case rel => exact ⟨k + 1, by omega, by go_num, HN, hq⟩
              case measure => simp [intOf]; omega
        · obtain rfl : k = n := by omega
          have HR := hid (point_yesQ HL.out h8 HA.out (fun i s a b => HK.out i s (by omega) a b))
          go_wp2_with fail
          go_ret
          exact ⟨ret_bool HR.out.symm, hq⟩
    · have HA := hid (Bool.eq_false_iff.2 ha)
      have HR : Hid (pointB xs = false) := hid (by simp [pointB, Bool.eq_false_iff.2 ha])
      clear ha
      go_enter Try.func45, Try.ntmps45
      go_wp2_with (go_at_call 73; refine (l1All_any _ _ _ _ _ _ _ h).mono ?_; rintro e w' ⟨rfl, rfl⟩; rw [HA.out])
      go_ret
      exact ⟨ret_bool HR.out.symm, ⟨0, rfl⟩⟩
  · have HR : Hid (pointB xs = false) := hid (by have : ¬ xs.length ≤ 8 := (by rw [HL.out]; exact h8); simp [pointB, this])
    have h9 : (8 : Int) < (n : Int) := by omega
    go_enter Try.func45, Try.ntmps45
    go_wp2_with fail
    go_ret
    exact ⟨ret_bool HR.out.symm, ⟨0, rfl⟩⟩
theorem own_drewQ {w : World} {B : Nat} {a : Option Addr} {n cap : Nat} {xs : List Int} (h : Own w B a n cap xs) (k : Nat) : Own (w.drewN k) B a n cap xs := h
theorem labX1_b (xs : List Int) (i j : Nat) : 0 ≤ labX1 xs i j ∧ labX1 xs i j ≤ 1 := by unfold labX1; split <;> omega
theorem labX_b (xs : List Int) (i : Nat) : ∀ j : Nat, 0 ≤ labX xs i j ∧ labX xs i j ≤ (j : Int)
  | 0 => by simp [labX]
  | j + 1 => by
    have h1 := labX_b xs i j
    have h2 := labX1_b xs i j
    rw [labX]
    omega
/-- The label part-way. -/
def labAt (xs : List Int) (n i j : Nat) : List Int := (List.range n).map fun q => if q < i then labX xs q n else if q = i then labX xs i j else 0
theorem length_labAt (xs : List Int) (n i j : Nat) : (labAt xs n i j).length = n := by simp [labAt]
theorem nth_labAt {xs : List Int} {n i j q : Nat} (h : q < n) : nth (labAt xs n i j) q = if q < i then labX xs q n else if q = i then labX xs i j else 0 := by simp [labAt, nth, h]
theorem labAt_zero (xs : List Int) (n : Nat) : List.replicate n 0 = labAt xs n 0 0 := ext_nth (by simp [labAt]) (fun q hq => by
  rw [List.length_replicate] at hq
  rw [nth_labAt hq]
  simp [nth, hq, labX])
theorem labAt_yes {xs : List Int} {n i j : Nat} (hi : i < n) : (labAt xs n i j).set i (labX xs i j + labX1 xs i j) = labAt xs n i (j + 1) := ext_nth (by simp [labAt]) (fun q hq => by
  rw [List.length_set, length_labAt] at hq
  rw [nth_set (by rw [length_labAt]; exact hi), nth_labAt hq, nth_labAt hq]
  by_cases e : i = q
  · subst e; simp [labX]
  · rw [if_neg e]; simp [Ne.symm e])
theorem labAt_no {xs : List Int} {n i j : Nat} (h : labX1 xs i j = 0) : labAt xs n i j = labAt xs n i (j + 1) := by simp [labAt, labX, h]
theorem labAt_next (xs : List Int) (n i : Nat) : labAt xs n i n = labAt xs n (i + 1) 0 := ext_nth (by simp [labAt]) (fun q hq => by
  rw [length_labAt] at hq
  rw [nth_labAt hq, nth_labAt hq]
  by_cases e : q < i
  · rw [if_pos e, if_pos (by omega)]
  · by_cases e2 : q = i
    · subst e2; simp
    · rw [if_neg e, if_neg e2, if_neg (by omega)]
      split
      · simp [labX]
      · rfl)
theorem labAt_end {xs : List Int} {n : Nat} (hn : xs.length = n) : labAt xs n n 0 = labPt xs := by
  subst hn
  refine ext_nth (by simp [labAt, labPt]) (fun q hq => ?_)
  rw [length_labAt] at hq
  rw [nth_labAt hq, if_pos hq]
  simp [labPt, nth, hq]
set_option maxRecDepth 100000 in
set_option maxHeartbeats 4000000 in
theorem reLabel_any (a : Option Addr) (n cap : Nat) (xs : List Int) (w : World) (h : Has w a n cap xs) (h8 : n ≤ 8) (hbd : ∀ i, i < n → -100000 ≤ nth xs i ∧ nth xs i ≤ 100000) :
    Calls Try.prog 71 #[.slice a n cap] w fun e w' => ∃ a' c', e = .returned (.slice a' n c') ∧ Own w' w.heap.size a' n c' (labPt xs) ∧ Below w.heap.size w w' := by
  have HL := hid h.len
  have HB := hid hbd
  clear hbd
  go_enter Try.func71, Try.ntmps71
  go_wp2_with (at_make; refine wpList_make_ints _ rfl _ _ rfl n rfl rfl (by omega) ?_; intro a1 c1 w1 own1 hb1)
  rw [labAt_zero xs n] at own1
  go_loopw [11] (fun i wr => ∃ k : Nat, k ≤ n ∧ i = .int .i64 (k : Int) ∧ Own wr w.heap.size a1 n c1 (labAt xs n k 0) ∧ Below w.heap.size w wr) (fun i _ => n - (intOf i).toNat)
  case atStart => exact ⟨0, by omega, rfl, own1, hb1⟩
  case round =>
    clear own1 hb1
    obtain ⟨k, hk, rfl, o1, hb⟩ := hrel
    by_cases hkn : k < n
    · go_wp2_with fail
      go_loopw [16] (fun j wr => ∃ s : Nat, s ≤ n ∧ j = .int .i64 (s : Int) ∧ Own wr w.heap.size a1 n c1 (labAt xs n k s) ∧ Below w.heap.size w wr) (fun j _ => n - (intOf j).toNat)
      case atStart => exact ⟨0, by omega, rfl, o1, hb⟩
      case round =>
        clear o1 hb
        obtain ⟨s, hs, rfl, o1, hb⟩ := hrel
        by_cases hsn : s < n
        · have hx := h.below hb (Nat.le_refl _)
          obtain ⟨b0, off, rfl, hbb, hc⟩ := hx.2.2.2.2 (by omega)
          have x1 := hc k hkn
          have x2 := hc s hsn
          obtain ⟨r1, r2⟩ := HB.out k hkn
          obtain ⟨r3, r4⟩ := HB.out s hsn
          have hwr : IntKind.i64.wrap (nth xs s - nth xs k) = nth xs s - nth xs k := IntWalk.i64_in _ (by omega)
          have HD : Hid (labX1 xs k s = if (s < k ∧ 100 < nth xs s - nth xs k) ∨ (k < s ∧ nth xs k < nth xs s) then 1 else 0) := hid rfl
          have HY := hid (labAt_yes (xs := xs) (n := n) (i := k) (j := s) hkn)
          have HN := hid (labAt_no (xs := xs) (n := n) (i := k) (j := s))
          have hlb := labX_b xs k s
          have hkn2 : (k : Int) < (n : Int) := by omega
          have hk0 : (0 : Int) ≤ (k : Int) := by omega
          have hsn2 : (s : Int) < (n : Int) := by omega
          have hs0 : (0 : Int) ≤ (s : Int) := by omega
          have HQ := hid (fun q => own_drewQ o1 q)
          have HBQ := hid (fun q => below_drewN hb q)
          clear hc r1 r2 r3 r4
          generalize nth xs k = u at *
          generalize nth xs s = v at *
          rcases Nat.lt_trichotomy s k with hlt | hlt | hlt
          · have g1 : (s : Int) < (k : Int) := by omega
            have g2 : ¬ (k : Int) < (s : Int) := by omega
            have d1 : decide ((s : Int) < (k : Int)) = true := decide_eq_true g1
            have d2 : decide ((k : Int) < (s : Int)) = false := decide_eq_false g2
            have g3 : ¬ k < s := by omega
            by_cases hv : 100 < v - u
            · have hdv : decide (100 < v - u) = true := decide_eq_true hv
              have hX : labX1 xs k s = 1 := by rw [HD.out, if_pos (.inl ⟨hlt, hv⟩)]
              have hcc := o1.opened (by omega)
              obtain ⟨g, rfl, hg1, hg2, hg3, hg4⟩ := hcc
              have hck := hg3 k hkn
              have hcf := hg4 k
              rw [nth_labAt hkn, if_neg (Nat.lt_irrefl _), if_pos rfl] at hck
              rw [hX] at HY
              have s1 := fun q => ((HQ.out q).set k (labX xs k s + 1)).1
              rw [HY.out] at s1
              have s2 := fun q => (HBQ.out q).setCell (p := ⟨g, k, none⟩) hg1 (.int .i64 (labX xs k s + 1))
              generalize labX xs k s = y at *
              clear hg3 hg4
              go_wp2_with fail
              go_quiet (fail)
              go_wp2_with fail
              go_roundw
              case rel => exact ⟨s + 1, by omega, by go_num, s1 _, s2 _⟩
              case measure => simp [intOf]; omega
            · have hdv : decide (100 < v - u) = false := decide_eq_false hv
              have hX : labX1 xs k s = 0 := by rw [HD.out, if_neg (by omega)]
              have HN2 := hid (HN.out hX)
              go_wp2_with fail
              go_quiet (fail)
              go_wp2_with fail
              go_roundw
              case rel => exact ⟨s + 1, by omega, by go_num, by rw [← HN2.out]; exact HQ.out _, HBQ.out _⟩
              case measure => simp [intOf]; omega
          · subst hlt
            have g1 : ¬ (s : Int) < (s : Int) := by omega
            have d1 : decide ((s : Int) < (s : Int)) = false := decide_eq_false g1
            have hX : labX1 xs s s = 0 := by rw [HD.out, if_neg (by omega)]
            have HN2 := hid (HN.out hX)
            go_wp2_with fail
            go_quiet (fail)
            go_wp2_with fail
            go_roundw
            case rel => exact ⟨s + 1, by omega, by go_num, by rw [← HN2.out]; exact HQ.out _, HBQ.out _⟩
            case measure => simp [intOf]; omega
          · have g1 : ¬ (s : Int) < (k : Int) := by omega
            have g2 : (k : Int) < (s : Int) := by omega
            have d1 : decide ((s : Int) < (k : Int)) = false := decide_eq_false g1
            have d2 : decide ((k : Int) < (s : Int)) = true := decide_eq_true g2
            have g3 : ¬ s < k := by omega
            by_cases hv : u < v
            · have hdv : decide (u < v) = true := decide_eq_true hv
              have hX : labX1 xs k s = 1 := by rw [HD.out, if_pos (.inr ⟨hlt, hv⟩)]
              have hcc := o1.opened (by omega)
              obtain ⟨g, rfl, hg1, hg2, hg3, hg4⟩ := hcc
              have hck := hg3 k hkn
              have hcf := hg4 k
              rw [nth_labAt hkn, if_neg (Nat.lt_irrefl _), if_pos rfl] at hck
              rw [hX] at HY
              have s1 := fun q => ((HQ.out q).set k (labX xs k s + 1)).1
              rw [HY.out] at s1
              have s2 := fun q => (HBQ.out q).setCell (p := ⟨g, k, none⟩) hg1 (.int .i64 (labX xs k s + 1))
              generalize labX xs k s = y at *
              clear hg3 hg4
              go_wp2_with fail
              go_quiet (fail)
              go_wp2_with fail
              go_roundw
              case rel => exact ⟨s + 1, by omega, by go_num, s1 _, s2 _⟩
              case measure => simp [intOf]; omega
            · have hdv : decide (u < v) = false := decide_eq_false hv
              have hX : labX1 xs k s = 0 := by rw [HD.out, if_neg (by omega)]
              have HN2 := hid (HN.out hX)
              go_wp2_with fail
              go_quiet (fail)
              go_wp2_with fail
              go_roundw
              case rel => exact ⟨s + 1, by omega, by go_num, by rw [← HN2.out]; exact HQ.out _, HBQ.out _⟩
              case measure => simp [intOf]; omega
        · obtain rfl : s = n := by omega
          rw [labAt_next] at o1
          go_wp2_with fail
          go_roundw
          case rel => exact ⟨k + 1, by omega, by go_num, o1, hb⟩
          case measure => simp [intOf]; omega
    · obtain rfl : k = n := by omega
      rw [labAt_end HL.out] at o1
      go_wp2_with fail
      go_ret
      exact ⟨_, _, rfl, o1, hb⟩
set_option maxHeartbeats 800000 in
theorem specLabelPt_any (a : Option Addr) (n cap : Nat) (xs : List Int) (w : World) (h : Has w a n cap xs) :
    Calls Try.prog 42 #[.slice a n cap] w (PostInts w (labelPtOf xs)) := by
  have HL := hid h.len
  by_cases hp : pointB xs = true
  · have HP := hid hp
    have HR : Hid (labelPtOf xs = (labPt xs, true)) := hid (by unfold labelPtOf; rw [if_pos hp])
    obtain ⟨p1, p2, p3⟩ := pointB_iff.1 hp
    have hb : ∀ i, i < n → -100000 ≤ nth xs i ∧ nth xs i ≤ 100000 := fun i hi => allB_nth p2 (by rw [HL.out]; exact hi)
    have h8 : n ≤ 8 := by rw [← HL.out]; exact p1
    clear hp p1 p2 p3
    go_enter Try.func42, Try.ntmps42
    go_wp2_with fail
    refine (rePoint_any _ _ _ _ _ h).mono ?_
    rintro e w1 ⟨rfl, hq⟩
    rw [HP.out]
    have h1 := h.below (hq.below _) (Nat.le_refl _)
    have hbq : Below w.heap.size w w1 := hq.below _
    go_wp2_with fail
    refine (reLabel_any _ _ _ _ _ h1 h8 hb).mono ?_
    rintro e w2 ⟨a2, c2, rfl, o2, hb2⟩
    go_wp2_with fail
    go_ret2
    exact postInts HR.out (o2.mono hbq.size) (hbq.trans (hb2.mono hbq.size))
  · have HP := hid (Bool.eq_false_iff.2 hp)
    have HR : Hid (labelPtOf xs = ([], false)) := hid (by unfold labelPtOf; rw [if_neg hp])
    clear hp
    go_enter Try.func42, Try.ntmps42
    go_wp2_with fail
    refine (rePoint_any _ _ _ _ _ h).mono ?_
    rintro e w1 ⟨rfl, hq⟩
    rw [HP.out]
    go_wp2_with fail
    go_ret2
    exact postInts HR.out (Own.nil _ _) (hq.below _)
end Go.Proofs.Ytakadjhbomggbab

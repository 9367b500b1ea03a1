/- RerootTree and RelabelTree: the model's and the program's, by their contracts. -/
import Derived.Test.YtochmifhhigfhabImplTs
import Derived.Test.YtochmifhhigfhabSpecTw
import Derived.Test.YtochmifhhigfhabMathRl
import Derived.StillTailTactics
namespace Go.Proofs.Ytochmifhhigfhab
open Go.RowKit

set_option maxHeartbeats 400000 in
theorem indexAny_any (a : Option Addr) (n cap : Nat) (xs : List Int) (x : Int) (w : World) (h : Has w a n cap xs) :
    Calls Try.prog 90 #[.slice a n cap, .int .i64 x] w fun e w' => ∃ r : Int, e = .returned (.int .i64 r) ∧ (0 ≤ r ↔ x ∈ xs) ∧ w = w' := by
  have HL := hid h.len
  have hle := h.le
  have hcn := h.2.1
  obtain ⟨h0, h1, h2, h3, h4⟩ := h
  go_enter Try.func90, Try.ntmps90
  go_wp2_with fail
  go_loop [8] (fun i => ∃ k : Nat, k ≤ n ∧ i = .int .i64 k ∧ hasB (xs.take k) x = false) (fun i => n - (intOf i).toNat)
  case atStart => exact ⟨0, Nat.zero_le _, rfl, by simp [hasB]⟩
  case round =>
    obtain ⟨k, hk, rfl, hrel⟩ := hrel
    have HR := hid hrel
    clear hrel
    by_cases hlt : k < n
    · obtain ⟨b, off, rfl, hb, hc⟩ := h4 (by omega)
      have hck := hc k hlt
      clear hc h4
      by_cases he : nth xs k = x
      · have hbe : (x == nth xs k) = true := by simp [he]
        have HE := hid he
        clear he
        go_wp2_with fail
        go_ret
        refine ⟨_, rfl, ⟨fun _ => ?_, fun _ => by omega⟩, rfl⟩
        rw [← HE.out]
        exact nth_mem (by rw [HL.out]; exact hlt)
      · have hbe : (x == nth xs k) = false := by simp; exact fun e => he e.symm
        have HE := hid he
        clear he
        go_wp2_with fail
        go_round
        case rel => exact ⟨k + 1, by omega, by go_num, hasB_succ (by rw [HL.out]; omega) HR.out HE.out⟩
        case measure => simp [intOf]; omega
    · go_wp2_with fail
      go_ret
      refine ⟨_, rfl, ⟨fun hh => by omega, fun hh => ?_⟩, rfl⟩
      have := HR.out
      rw [List.take_of_length_le (by rw [HL.out]; omega), hasB_not] at this
      exact absurd hh this

set_option maxHeartbeats 400000 in
theorem contains_any (a : Option Addr) (n cap : Nat) (xs : List Int) (x : Int) (w : World) (h : Has w a n cap xs) :
    Calls Try.prog 59 #[.slice a n cap, .int .i64 x] w fun e w' => e = .returned (.bool (hasB xs x)) ∧ w = w' := by
  go_enter Try.func59, Try.ntmps59
  go_wp2_with fail
  refine (indexAny_any _ _ _ _ _ _ h).mono ?_
  rintro e _ ⟨r, rfl, hr, rfl⟩
  have HR := hid hr
  clear hr
  go_wp2_with fail
  go_ret
  exact ⟨ret_bool (by
    by_cases e : 0 ≤ r
    · rw [hasB_iff.2 (HR.out.1 e)]; simpa using e
    · rw [hasB_not.2 (fun hh => e (HR.out.2 hh))]; simpa using e), rfl⟩

/-- The parents of the turned tree, behind the first k nodes. -/
def RerAt (xs ys : List Int) (c : Int) (k : Nat) : Prop := ∀ i, i < xs.length → nth ys i = if i < k then nth (rerL xs c) i else nth xs i
theorem rerAt_all {xs ys : List Int} {c : Int} (h : RerAt xs ys c xs.length) (hl : ys.length = xs.length) : ys = rerL xs c :=
  ext_nth (by rw [hl, length_rerL]) fun i hi => by rw [h i (by omega), if_pos (by omega)]
theorem rerAt_set {xs ys : List Int} {c y : Int} {k : Nat} (h : RerAt xs ys c k) (hk : k < xs.length) (hl : ys.length = xs.length) (hy : nth (rerL xs c) k = y) : RerAt xs (ys.set k y) c (k + 1) := fun i hi => by
  rw [nth_set (by omega)]
  by_cases e : k = i
  · subst e; rw [if_pos rfl, if_pos (by omega), hy]
  · rw [if_neg e, h i hi]
    by_cases e2 : i < k
    · rw [if_pos e2, if_pos (by omega)]
    · rw [if_neg e2, if_neg (by omega)]
theorem rerAt_skip {xs ys : List Int} {c : Int} {k : Nat} (h : RerAt xs ys c k) (hk : k < xs.length) (hy : nth (rerL xs c) k = nth xs k) : RerAt xs ys c (k + 1) := fun i hi => by
  rw [h i hi]
  by_cases e : i = k
  · subst e; rw [if_neg (by omega), if_pos (by omega), hy]
  · by_cases e2 : i < k
    · rw [if_pos e2, if_pos (by omega)]
    · rw [if_neg e2, if_neg (by omega)]

set_option maxHeartbeats 2000000 in
theorem specRer_any (a : Option Addr) (n cap : Nat) (xs : List Int) (c : Int) (w : World) (h : Has w a n cap xs) :
    Calls Try.prog 25 #[.slice a n cap, .int .i64 c] w (PostInts w (rerOf xs c)) := by
  have HL := hid h.len
  by_cases hg : treeB xs = true
  · have HG := hid hg
    have h8 := (tree_of hg h.len).le
    by_cases hc : inB c 1 n = true
    · have HC := hid hc
      have hcb := inB_iff.1 hc
      obtain ⟨t, ht⟩ : ∃ t : Nat, c = (t : Int) + 1 := ⟨c.toNat - 1, by omega⟩
      have htn : t < n := by omega
      obtain ⟨b, off, rfl, hbb, hcell⟩ := h.2.2.2.2 (by omega)
      have hct := hcell t htn
      subst ht
      by_cases h0 : nth xs t = 0
      · have HR : Hid (rerOf xs ((t : Int) + 1) = (rerL xs ((t : Int) + 1), true)) := hid (by
          have := (rer_has (c := (t : Int) + 1) HL.out).2 ⟨by omega, by omega, by rw [show ((t : Int) + 1).toNat - 1 = t by omega]; exact h0⟩
          simp [rerOf, hg, this])
        rw [h0] at hct
        have H0 := hid h0
        have hbe0 : ((0 : Int) != 0) = false := by simp
        clear hg hc h0 hcell
        go_enter Try.func25, Try.ntmps25
        go_wp2_with (first | (go_at_call 50; refine (trGood_any _ _ _ _ _ h).mono ?_; rintro e w' ⟨rfl, rfl⟩; rw [HG.out]) | (go_at_call 55; refine (l1In_any _ _ _ _).mono ?_; rintro e w' ⟨rfl, rfl⟩; rw [HC.out]) | (go_at_call 60; refine (l1Own_any _ _ _ _ _ h).mono ?_; rintro e w1 ⟨a1, cap1, rfl, hown1, hb1⟩))
        go_loopw [31] (fun i wr => ∃ (k : Nat) (ys : List Int), k ≤ n ∧ i = .int .i64 k ∧ Own wr w.heap.size a1 n cap1 ys ∧ RerAt xs ys ((t : Int) + 1) k ∧ Below w.heap.size w wr) (fun i _ => n - (intOf i).toNat)
        case atStart => exact ⟨0, xs, by omega, rfl, hown1, fun i hi => by rw [if_neg (by omega)], hb1⟩
        case round =>
          clear hown1 hb1
          obtain ⟨k, ys, hk, rfl, hown, hra, hb⟩ := hrel
          have HRA := hid hra
          clear hra
          by_cases hlt : k < n
          · obtain ⟨g, rfl, hg1, hg2, hg3, hg4⟩ := hown.opened (by omega)
            have hck : wr.cell? ⟨b, off + k, none⟩ = some (.int .i64 (nth xs k)) := by
              obtain ⟨b', off', hbo, hbb', hc⟩ := h.2.2.2.2 (by omega)
              cases hbo
              rw [hb.cell (p := ⟨b, off + k, none⟩) hbb]; exact hc k hlt
            have hgk := hg3 k hlt
            have hgf := hg4 k
            have HN := hid (nth_rerL (xs := xs) (c := (t : Int) + 1) (i := k) (by rw [HL.out]; exact hlt))
            have hkx : k < xs.length := by rw [HL.out]; exact hlt
            have hyl : ys.length = xs.length := by rw [hown.len, HL.out]
            have HKX := hid hkx
            have HYL := hid hyl
            clear hg3 hg4 hkx hyl
            by_cases e1 : k = t
            · have hbe : ((k : Int) + 1 == (t : Int) + 1) = true := by simp [e1]
              have HV : Hid (nth (rerL xs ((t : Int) + 1)) k = 0) := hid (by rw [HN.out, if_pos (by omega)])
              have E1 := hid e1
              clear e1
              go_wp2_with fail
              go_roundw
              case rel =>
                obtain ⟨s1, s2⟩ := hown.set k 0
                exact ⟨k + 1, _, by omega, by go_num, s1, rerAt_set HRA.out HKX.out HYL.out HV.out, hb.setCell hg1 _⟩
              case measure => simp [intOf]; omega
            · have hbe : ((k : Int) + 1 == (t : Int) + 1) = false := by simp; omega
              have hkt : ¬ (k : Int) + 1 = (t : Int) + 1 := by omega
              by_cases e2 : nth xs k = 0
              · have HV : Hid (nth (rerL xs ((t : Int) + 1)) k = (t : Int) + 1) := hid (by rw [HN.out, if_neg hkt, if_pos e2])
                rw [e2] at hck
                have E2 := hid e2
                clear e1 e2 hkt
                go_wp2_with fail
                go_roundw
                case rel =>
                  obtain ⟨s1, s2⟩ := hown.set k ((t : Int) + 1)
                  exact ⟨k + 1, _, by omega, by go_num, s1, rerAt_set HRA.out HKX.out HYL.out HV.out, hb.setCell hg1 _⟩
                case measure => simp [intOf]; omega
              · have hbe2 : (nth xs k == 0) = false := by simp [e2]
                by_cases e3 : nth xs k = (t : Int) + 1
                · have HV : Hid (nth (rerL xs ((t : Int) + 1)) k = 0) := hid (by rw [HN.out, if_neg hkt, if_neg e2, if_pos e3])
                  rw [e3] at hck hbe2
                  have E3 := hid e3
                  have hbe3 : ((t : Int) + 1 == (t : Int) + 1) = true := by simp
                  clear e1 e2 e3 hkt
                  go_wp2_with fail
                  go_roundw
                  case rel =>
                    obtain ⟨s1, s2⟩ := hown.set k 0
                    exact ⟨k + 1, _, by omega, by go_num, s1, rerAt_set HRA.out HKX.out HYL.out HV.out, hb.setCell hg1 _⟩
                  case measure => simp [intOf]; omega
                · have hbe3 : (nth xs k == (t : Int) + 1) = false := by simp [e3]
                  have HV : Hid (nth (rerL xs ((t : Int) + 1)) k = nth xs k) := hid (by rw [HN.out, if_neg hkt, if_neg e2, if_neg e3])
                  clear e1 e2 e3 hkt
                  go_wp2_with fail
                  go_roundw
                  case rel => exact ⟨k + 1, ys, by omega, by go_num, hown, rerAt_skip HRA.out HKX.out HV.out, hb⟩
                  case measure => simp [intOf]; omega
          · obtain rfl : k = n := by omega
            have HF : Hid (ys = rerL xs ((t : Int) + 1)) := hid (rerAt_all (by rw [HL.out]; exact HRA.out) (by rw [hown.len, HL.out]))
            go_wp2_with fail
            go_ret2
            exact postInts HR.out (by rw [← HF.out]; exact hown) hb
      · have HR : Hid (rerOf xs ((t : Int) + 1) = ([], false)) := hid (by
          have : hasB (nodesW xs 0) ((t : Int) + 1) = false := Bool.eq_false_iff.2 (fun hh => by
            have := (rer_has (c := (t : Int) + 1) HL.out).1 hh
            rw [show ((t : Int) + 1).toNat - 1 = t by omega] at this
            exact h0 this.2.2)
          simp [rerOf, this])
        have hbe0 : (nth xs t != 0) = true := by simpa using h0
        clear hg hc h0 hcell
        go_enter Try.func25, Try.ntmps25
        go_wp2_with (first | (go_at_call 50; refine (trGood_any _ _ _ _ _ h).mono ?_; rintro e w' ⟨rfl, rfl⟩; rw [HG.out]) | (go_at_call 55; refine (l1In_any _ _ _ _).mono ?_; rintro e w' ⟨rfl, rfl⟩; rw [HC.out]))
        go_ret2
        exact postInts_no HR.out (Below.refl _ _)
    · have HR : Hid (rerOf xs c = ([], false)) := hid (by
        have : hasB (nodesW xs 0) c = false := Bool.eq_false_iff.2 (fun hh => by
          have := (rer_has (c := c) HL.out).1 hh
          exact hc (inB_iff.2 ⟨this.1, this.2.1⟩))
        simp [rerOf, this])
      have HC := hid (Bool.eq_false_iff.2 hc)
      clear hg hc
      go_enter Try.func25, Try.ntmps25
      go_wp2_with (first | (go_at_call 50; refine (trGood_any _ _ _ _ _ h).mono ?_; rintro e w' ⟨rfl, rfl⟩; rw [HG.out]) | (go_at_call 55; refine (l1In_any _ _ _ _).mono ?_; rintro e w' ⟨rfl, rfl⟩; rw [HC.out]))
      go_ret2
      exact postInts_no HR.out (Below.refl _ _)
  · have HR : Hid (rerOf xs c = ([], false)) := hid (by simp [rerOf, hg])
    have HG := hid (Bool.eq_false_iff.2 hg)
    clear hg
    go_enter Try.func25, Try.ntmps25
    go_wp2_with (go_at_call 50; refine (trGood_any _ _ _ _ _ h).mono ?_; rintro e w' ⟨rfl, rfl⟩; rw [HG.out])
    go_ret2
    exact postInts_no HR.out (Below.refl _ _)

/-- The parents as the program turns them: the child's own comes last. -/
theorem rer_last {xs ys : List Int} {c : Int} {t n : Nat} (hc : c = (t : Int) + 1) (hl : ys.length = n) (hx : xs.length = n) (h : ∀ i, i < n → nth ys i = if nth xs i = 0 then c else if nth xs i = c then 0 else nth xs i) (ht : t < n) : ys.set t 0 = rerL xs c :=
  ext_nth (by simp [hl, length_rerL, hx]) fun i hi => by
    rw [List.length_set, hl] at hi
    rw [nth_set (by omega), nth_rerL (by omega)]
    by_cases e : t = i
    · subst e; rw [if_pos rfl, if_pos (by omega)]
    · rw [if_neg e, if_neg (by omega), h i hi]

set_option maxHeartbeats 2000000 in
theorem implRer_any (a : Option Addr) (n cap : Nat) (xs : List Int) (c : Int) (w : World) (h : Has w a n cap xs) :
    Calls Try.prog 26 #[.slice a n cap, .int .i64 c] w (PostInts w (rerOf xs c)) := by
  have HL := hid h.len
  by_cases hg : treeB xs = true
  · have HG := hid hg
    have h8 := (tree_of hg h.len).le
    by_cases hc : hasB (nodesW xs 0) c = true
    · have HR : Hid (rerOf xs c = (rerL xs c, true)) := hid (by simp [rerOf, hg, hc])
      obtain ⟨c1, c2, c3⟩ := (rer_has HL.out).1 hc
      obtain ⟨t, ht⟩ : ∃ t : Nat, c = (t : Int) + 1 := ⟨c.toNat - 1, by omega⟩
      have htn : t < n := by omega
      have HC := hid hc
      subst ht
      clear hg hc c3
      go_enter Try.func26, Try.ntmps26
      go_wp2_with (first | (go_at_call 35; refine (isTree_any _ _ _ _ _ h).mono ?_; rintro e w1 ⟨rfl, hb1⟩; rw [HG.out]) | (go_at_call 61; refine (nodesWith_any _ _ _ _ _ _ (h.below hb1 (Nat.le_refl _))).mono ?_; rintro e w2 ⟨a2, m2, cap2, rfl, hown2, hb2⟩) | (go_at_call 59; refine (contains_any _ _ _ _ _ _ hown2.has).mono ?_; rintro e w' ⟨rfl, rfl⟩; rw [HC.out]) | (go_at_call 62; refine (clone_any _ _ _ _ _ ((h.below hb1 (Nat.le_refl _)).below hb2 (Nat.le_refl _))).mono ?_; rintro e w3 ⟨a3, cap3, rfl, hown3, hb3⟩))
      have hs1 := hb1.size
      have hs2 := hb2.size
      have hbx := (hb1.trans (hb2.mono hs1)).trans (hb3.mono (by omega))
      clear hown2
      go_loopw [23] (fun i wr => ∃ (k : Nat) (ys : List Int), k ≤ n ∧ i = .int .i64 k ∧ Own wr w2.heap.size a3 n cap3 ys ∧ Hid (∀ i, i < n → nth ys i = if i < k then (if nth xs i = 0 then (t : Int) + 1 else if nth xs i = (t : Int) + 1 then 0 else nth xs i) else nth xs i) ∧ Below w.heap.size w wr) (fun i _ => n - (intOf i).toNat)
      case atStart => exact ⟨0, xs, by omega, rfl, hown3, hid (fun i hi => by rw [if_neg (by omega)]), hbx⟩
      case round =>
        clear hown3 hbx
        obtain ⟨k, ys, hk, rfl, hown, HRA, hb⟩ := hrel
        have nxt : Hid (∀ (zs : List Int), zs.length = n → (∀ i, i < n → nth zs i = if i = k then (if nth xs i = 0 then (t : Int) + 1 else if nth xs i = (t : Int) + 1 then 0 else nth xs i) else nth ys i) → ∀ i, i < n → nth zs i = if i < k + 1 then (if nth xs i = 0 then (t : Int) + 1 else if nth xs i = (t : Int) + 1 then 0 else nth xs i) else nth xs i) := hid (fun zs _ hz i hi => by
          rw [hz i hi]
          by_cases e : i = k
          · rw [if_pos e, if_pos (show i < k + 1 by omega)]
          · rw [if_neg e, HRA.out i hi]
            by_cases e2 : i < k
            · rw [if_pos e2, if_pos (show i < k + 1 by omega)]
            · rw [if_neg e2, if_neg (show ¬ i < k + 1 by omega)])
        by_cases hlt : k < n
        · obtain ⟨g, rfl, hg1, hg2, hg3, hg4⟩ := hown.opened (by omega)
          obtain ⟨b, off, rfl, hbb, hcell⟩ := h.2.2.2.2 (by omega)
          have hck : wr.cell? ⟨b, off + k, none⟩ = some (.int .i64 (nth xs k)) := by rw [hb.cell (p := ⟨b, off + k, none⟩) hbb]; exact hcell k hlt
          have hgk := hg3 k hlt
          have hgf := hg4 k
          have HLEN := hid hown.len
          have HYK : Hid (nth ys k = nth xs k) := hid (by rw [HRA.out k hlt, if_neg (by omega)])
          have SET : Hid (∀ y, (if nth xs k = 0 then (t : Int) + 1 else if nth xs k = (t : Int) + 1 then 0 else nth xs k) = y → ∀ i, i < n → nth (ys.set k y) i = if i = k then (if nth xs i = 0 then (t : Int) + 1 else if nth xs i = (t : Int) + 1 then 0 else nth xs i) else nth ys i) := hid (fun y hy i hi => by
            rw [nth_set (by rw [HLEN.out]; exact hlt)]
            by_cases e : k = i
            · subst e; rw [if_pos rfl, if_pos rfl, hy]
            · rw [if_neg e, if_neg (fun hh => e hh.symm)])
          clear hg3 hg4 hcell
          by_cases e2 : nth xs k = 0
          · have HV := hid (SET.out ((t : Int) + 1) (by rw [if_pos e2]))
            rw [e2] at hck
            have hbe0 : ((0 : Int) == 0) = true := by simp
            have E2 := hid e2
            clear e2
            go_wp2_with fail
            go_roundw
            case rel =>
              obtain ⟨s1, s2⟩ := hown.set k ((t : Int) + 1)
              exact ⟨k + 1, _, by omega, by go_num, s1, hid (nxt.out _ s1.len HV.out), hb.setCell (by simp; omega) _⟩
            case measure => simp [intOf]; omega
          · have hbe2 : (nth xs k == 0) = false := by simp [e2]
            by_cases e3 : nth xs k = (t : Int) + 1
            · have HV := hid (SET.out 0 (by rw [if_neg e2, if_pos e3]))
              rw [e3] at hck hbe2
              have hbe3 : ((t : Int) + 1 == (t : Int) + 1) = true := by simp
              have E3 := hid e3
              clear e2 e3
              go_wp2_with fail
              go_roundw
              case rel =>
                obtain ⟨s1, s2⟩ := hown.set k 0
                exact ⟨k + 1, _, by omega, by go_num, s1, hid (nxt.out _ s1.len HV.out), hb.setCell (by simp; omega) _⟩
              case measure => simp [intOf]; omega
            · have hbe3 : (nth xs k == (t : Int) + 1) = false := by simp [e3]
              have HV : Hid (∀ i, i < n → nth ys i = if i = k then (if nth xs i = 0 then (t : Int) + 1 else if nth xs i = (t : Int) + 1 then 0 else nth xs i) else nth ys i) := hid (fun i hi => by
                by_cases e : i = k
                · subst e; rw [if_pos rfl, if_neg e2, if_neg e3]; exact HYK.out
                · rw [if_neg e])
              clear e2 e3
              go_wp2_with fail
              go_roundw
              case rel => exact ⟨k + 1, ys, by omega, by go_num, hown, hid (nxt.out _ HLEN.out HV.out), hb⟩
              case measure => simp [intOf]; omega
        · obtain rfl : k = n := by omega
          obtain ⟨g, rfl, hg1, hg2, hg3, hg4⟩ := hown.opened (by omega)
          have hgt := hg3 t htn
          have hgf := hg4 t
          have HF : Hid (ys.set t 0 = rerL xs ((t : Int) + 1)) := hid (rer_last rfl hown.len HL.out (fun i hi => by rw [HRA.out i hi, if_pos hi]) htn)
          obtain ⟨s1, s2⟩ := hown.set t 0
          rw [HF.out] at s1
          clear hg3 hg4
          go_wp2_with fail
          go_ret2
          exact postInts HR.out (s1.mono (by omega)) (hb.setCell (by simp; omega) _)
    · have HR : Hid (rerOf xs c = ([], false)) := hid (by simp [rerOf, hc])
      have HC := hid (Bool.eq_false_iff.2 hc)
      clear hg hc
      go_enter Try.func26, Try.ntmps26
      go_wp2_with (first | (go_at_call 35; refine (isTree_any _ _ _ _ _ h).mono ?_; rintro e w1 ⟨rfl, hb1⟩; rw [HG.out]) | (go_at_call 61; refine (nodesWith_any _ _ _ _ _ _ (h.below hb1 (Nat.le_refl _))).mono ?_; rintro e w2 ⟨a2, m2, cap2, rfl, hown2, hb2⟩) | (go_at_call 59; refine (contains_any _ _ _ _ _ _ hown2.has).mono ?_; rintro e w' ⟨rfl, rfl⟩; rw [HC.out]))
      go_ret2
      exact postInts_no HR.out (hb1.trans (hb2.mono hb1.size))
  · have HR : Hid (rerOf xs c = ([], false)) := hid (by simp [rerOf, hg])
    have HG := hid (Bool.eq_false_iff.2 hg)
    clear hg
    go_enter Try.func26, Try.ntmps26
    go_wp2_with (go_at_call 35; refine (isTree_any _ _ _ _ _ h).mono ?_; rintro e w1 ⟨rfl, hb1⟩; rw [HG.out])
    go_ret2
    exact postInts_no HR.out hb1
end Go.Proofs.Ytochmifhhigfhab

/- The model's parking function with a rank, the next one, and counts by first favourites, by their contracts. -/
import Derived.Test.YtkkhlkaieohklaaSpecR
import Derived.Test.YtkkhlkaieohklaaMathX
namespace Go.Proofs.Ytkkhlkaieohklaa
open Go.RowKit

/-- What is left to choose behind p, at r. -/
def AtLeft (n R : Nat) (p : List Int) (k r : Nat) : Prop := r < N p n ∧ toI (atL n n [] R) = p ++ toI (atL n (n - k) p r)
theorem atLeft_first {n R : Nat} (hn : n ≤ 8) (hR : R < cnt n) : AtLeft n R [] 0 R := ⟨by rw [N_nil hn]; exact hR, by simp⟩
theorem atLeft_step {n R k r x ρ : Nat} {p : List Int} (h : AtLeft n R p k r) (hk : k < n) (hp : p.length = k) (h1 : r = rkAtP p n x + ρ) (h2 : ρ < N (p ++ [(x : Int)]) n) : AtLeft n R (p ++ [(x : Int)]) (k + 1) ρ := by
  refine ⟨h2, ?_⟩
  rw [h.2, show n - k = (n - (k + 1)) + 1 by omega, at_step ⟨h1, h2⟩ (by omega) h.1, snoc_toI]
theorem atLeft_room {n R k r y ρ : Nat} {p : List Int} (h : AtLeft n R p k r) (hk : k < n) (hp : p.length = k) (h1 : r = rkAtP p n y + ρ) : y < n := by
  have h2 := h.1
  rw [N_split (by omega)] at h2
  apply Classical.byContradiction
  intro hn
  have := sumTo_mono (fun y => N (p ++ [(y : Int)]) n) (show n ≤ y by omega)
  unfold rkAtP at h1
  omega

set_option maxHeartbeats 2000000 in
theorem cnAt_any (n R : Nat) (w : World) (hn : n ≤ 8) (hR : R < cnt n) :
    Calls Try.prog 48 #[.int .i64 (n : Int), .int .i64 (R : Int)] w fun e w' => ∃ a' cap', e = .returned (.slice a' n cap') ∧ Own w' w.heap.size a' n cap' (toI (atL n n [] R)) ∧ Below w.heap.size w w' := by
  have HA0 := hid (atLeft_first hn hR)
  have hcn := (cnt_le hn).2
  go_enter Try.func48, Try.ntmps48
  go_wp2_with fail
  go_loopw [1, 5] (fun s1 s5 wr => ∃ (k r : Nat) (a' : Option Addr) (cap' : Nat) (p : List Int), k ≤ n ∧ r ≤ 4782969 ∧ s1 = .int .i64 (r : Int) ∧ s5 = .slice a' k cap' ∧ Own wr w.heap.size a' k cap' p ∧ Hid (∀ i, i < k → 0 ≤ nth p i) ∧ Hid (AtLeft n R p k r) ∧ Below w.heap.size w wr) (fun _ o _ => n - (match o with | .slice _ k _ => k | _ => 0))
  case atStart => exact ⟨0, R, none, 0, [], Nat.zero_le _, by omega, rfl, rfl, Own.nil _ _, hid (fun i hi => by omega), HA0, Below.refl _ _⟩
  case round =>
    obtain ⟨k, r, a', cap', p, hk, hr, rfl, rfl, hown, HP, HA, hb⟩ := hrel
    obtain ⟨wo, hwo⟩ : ∃ wo : World, wo = wr := ⟨_, rfl⟩
    subst hwo
    by_cases hlt : k < n
    · have HL := hid hown.len
      have hsz := hb.size
      have H0 := hid (nth_snoc_nonneg (j := 0) HL.out HP.out)
      go_wp2_with fail
      refine (l1Own_any _ _ _ _ _ hown.has).mono ?_
      rintro e w3 ⟨a3, cap3, rfl, hown3, hb3⟩
      go_wp2_with (at_builtin; refine wpList_append_int _ rfl _ _ rfl wo.heap.size _ _ _ _ _ rfl rfl hown3 (by omega) hb3.size ?_; intro a4 cap4 w4 hown4 hb4)
      have hb34 := hb3.trans hb4
      refine (cnWith_any _ _ _ _ n _ hown4.has hn (by omega) H0.out).mono ?_
      rintro e w5 ⟨rfl, hb5⟩
      have hb35 := hb34.trans (hb5.mono hb34.size)
      clear hown3 hown4 hb3 hb4 hb5 hb34
      go_wp2_with fail
      go_loopw [1, 6, 7] (fun s1 s6 s7 wr => ∃ (y ρ : Nat), ρ ≤ 4782969 ∧ y ≤ n ∧ s1 = .int .i64 (ρ : Int) ∧ s6 = .int .i64 (y : Int) ∧ s7 = .int .i64 (N (p ++ [(y : Int)]) n : Int) ∧ Hid (r = rkAtP p n y + ρ) ∧ Below wo.heap.size wo wr) (fun _ y _ _ => n + 1 - (intOf y).toNat)
      case atStart => exact ⟨0, r, hr, Nat.zero_le _, rfl, rfl, rfl, hid (by simp [rkAtP, sumTo]), hb35⟩
      case round =>
        clear hb35
        obtain ⟨y, ρ, hρ, hy, rfl, rfl, rfl, HY, hbo⟩ := hrel
        have hyn := atLeft_room HA.out hlt HL.out HY.out
        have hN := N_le (p := p ++ [(y : Int)]) hn
        by_cases hge : N (p ++ [(y : Int)]) n ≤ ρ
        · have H1 := hid (nth_snoc_nonneg (j := y + 1) HL.out HP.out)
          have HY2 : Hid (r = rkAtP p n (y + 1) + (ρ - N (p ++ [(y : Int)]) n)) := hid (by rw [rkAtP_succ]; have := HY.out; omega)
          have hge' : (N (p ++ [(y : Int)]) n : Int) ≤ (ρ : Int) := by omega
          have HD : Hid (((ρ - N (p ++ [(y : Int)]) n : Nat) : Int) = (ρ : Int) - (N (p ++ [(y : Int)]) n : Int)) := hid (by omega)
          have hown2 := hown.below hbo (Nat.le_refl _)
          clear hge
          go_wp2_with fail
          refine (l1Own_any _ _ _ _ _ hown2.has).mono ?_
          rintro e w3 ⟨a3, cap3, rfl, hown3, hb3⟩
          go_wp2_with (at_builtin; refine wpList_append_int _ rfl _ _ rfl wr.heap.size _ _ _ _ _ rfl rfl hown3 (by omega) hb3.size ?_; intro a4 cap4 w4 hown4 hb4)
          have hb34 := hb3.trans hb4
          refine (cnWith_any _ _ _ (p ++ [(y : Int) + 1]) n _ hown4.has hn (by omega) H1.out).mono ?_
          rintro e w5 ⟨rfl, hb5⟩
          have hb35 := hb34.trans (hb5.mono hb34.size)
          clear hown3 hown4 hb3 hb4 hb5 hb34 hown2
          go_wp2_with fail
          go_roundw
          case rel => exact ⟨y + 1, ρ - N (p ++ [(y : Int)]) n, by omega, by omega, by rw [HD.out], by go_num, rfl, HY2, hbo.trans (hb35.mono hbo.size)⟩
          case measure => simp [intOf]; omega
        · have HA2 := hid (atLeft_step HA.out hlt HL.out HY.out (by omega))
          have H1 := hid (nth_snoc_nonneg (j := y) HL.out HP.out)
          have hown2 := hown.below hbo (Nat.le_refl _)
          have hlt' : ¬ (N (p ++ [(y : Int)]) n : Int) ≤ (ρ : Int) := by omega
          clear hge hown
          go_wp2_with (at_builtin; refine wpList_append_int _ rfl _ _ rfl w.heap.size _ _ _ _ _ rfl rfl hown2 (by omega) (Nat.le_trans hsz hbo.size) ?_; intro a4 cap4 w4 hown4 hb4)
          go_roundw
          case rel => exact ⟨k + 1, ρ, a4, cap4, _, by omega, hρ, rfl, rfl, hown4, H1, HA2, (hb.trans (hbo.mono hsz)).trans hb4⟩
          case measure => simp; omega
    · obtain rfl : n = k := by omega
      have HE : Hid (toI (atL n n [] R) = p) := hid (by rw [HA.out.2, Nat.sub_self]; simp [atL, toI])
      go_wp2_with fail
      go_ret
      exact ⟨_, _, rfl, by rw [HE.out]; exact hown, hb⟩

theorem atOf_yes {n R : Nat} (hn : n ≤ 8) (hR : R < cnt n) : atOf n R = (toI (atL n n [] R), true) := by
  have h1 : inB (n : Int) 0 8 = true := inB_iff.2 ⟨by omega, by omega⟩
  have h2 : inB (R : Int) 0 ((cnt n : Int) - 1) = true := inB_iff.2 ⟨by omega, by omega⟩
  simp only [atOf, Int.toNat_natCast, h1, h2, Bool.and_true, if_true]
theorem atOf_no1 {n r : Int} (h : ¬ inB n 0 8 = true) : atOf n r = ([], false) := by simp [atOf, h]
theorem atOf_no2 {n : Nat} {r : Int} (h : ¬ inB r 0 ((cnt n : Int) - 1) = true) : atOf n r = ([], false) := by simp [atOf, h]

set_option maxHeartbeats 800000 in
theorem specAt_any (n r : Int) (w : World) : Calls Try.prog 9 #[.int .i64 n, .int .i64 r] w (PostInts w (atOf n r)) := by
  by_cases hg : inB n 0 8 = true
  · obtain ⟨m, rfl⟩ : ∃ m : Nat, n = (m : Int) := ⟨n.toNat, by have := inB_iff.1 hg; omega⟩
    have hm : m ≤ 8 := by have := inB_iff.1 hg; omega
    obtain ⟨c1, c2⟩ := cnt_le hm
    by_cases hr : inB r 0 ((cnt m : Int) - 1) = true
    · obtain ⟨R, rfl⟩ : ∃ R : Nat, r = (R : Int) := ⟨r.toNat, by have := inB_iff.1 hr; omega⟩
      have hR : R < cnt m := by have := inB_iff.1 hr; omega
      have HA := hid (atOf_yes hm hR)
      have HG := hid hg
      have HR := hid hr
      clear hg hr
      go_enter Try.func9, Try.ntmps9
      go_wp2_with (first | (go_at_call 46; refine (cnCars_any _ _).mono ?_; rintro e w' ⟨rfl, rfl⟩; rw [HG.out]) | (go_at_call 37; refine (cnCount_any _ _ hm).mono ?_; rintro e w' ⟨rfl, rfl⟩) | (go_at_call 47; refine (l1In_any _ _ _ _).mono ?_; rintro e w' ⟨rfl, rfl⟩; rw [HR.out]))
      refine (cnAt_any _ _ _ hm hR).mono ?_
      rintro e w2 ⟨a2, cap2, rfl, hown2, hb2⟩
      go_wp2_with fail
      go_ret2
      exact postInts HA.out hown2 hb2
    · have HA := hid (atOf_no2 hr)
      have HG := hid hg
      have HR := hid hr
      clear hg hr
      go_enter Try.func9, Try.ntmps9
      go_wp2_with (first | (go_at_call 46; refine (cnCars_any _ _).mono ?_; rintro e w' ⟨rfl, rfl⟩; rw [HG.out]) | (go_at_call 37; refine (cnCount_any _ _ hm).mono ?_; rintro e w' ⟨rfl, rfl⟩) | (go_at_call 47; refine (l1In_any _ _ _ _).mono ?_; rintro e w' ⟨rfl, rfl⟩; rw [Bool.eq_false_iff.2 HR.out]))
      go_ret2
      exact postInts_no HA.out (Below.refl _ _)
  · have HA := hid (atOf_no1 (r := r) hg)
    have HG := hid hg
    clear hg
    go_enter Try.func9, Try.ntmps9
    go_wp2_with (go_at_call 46; refine (cnCars_any _ _).mono ?_; rintro e w' ⟨rfl, rfl⟩; rw [Bool.eq_false_iff.2 HG.out])
    go_ret2
    exact postInts_no HA.out (Below.refl _ _)

theorem nextOf_yes {xs : List Int} {n : Nat} (h : isPark xs = true) (hn : xs.length = n) : nextOf xs = atOf n ((rkTo xs n n : Int) + 1) := by
  rw [rkTo_all hn]
  subst hn
  simp [nextOf, h]
theorem nextOf_no {xs : List Int} (h : ¬ isPark xs = true) : nextOf xs = ([], false) := by simp [nextOf, h]

/-- One number, written out. -/
theorem has_lit1 (w : World) (y : Int) : Has (w.alloc (.cells #[.int .i64 y] 3)) (some ⟨w.heap.size, 0, none⟩) 1 1 [y] := by
  refine ⟨rfl, Nat.le_refl _, by unfold maxLen; omega, by omega, fun _ => ⟨_, _, rfl, by simp, fun i hi => ?_⟩⟩
  obtain rfl : i = 0 := by omega
  rw [World.cell?_alloc_at _ _ _ _ rfl]
  rfl
theorem one_nonneg (k : Nat) : ∀ i, i < 1 → 0 ≤ nth [(k : Int)] i := fun i hi => by
  obtain rfl : i = 0 := by omega
  simp [nth]
/-- How many begin with each of the first k numbers. -/
def firsts (n k : Nat) : List Int := (List.range k).map fun (x : Nat) => (N [(x : Int)] n : Int)
theorem firsts_succ (n k : Nat) : firsts n (k + 1) = firsts n k ++ [(N [(k : Int)] n : Int)] := by simp [firsts, List.range_succ]
theorem firstOf_yes {n : Nat} (h : inB (n : Int) 1 8 = true) : firstOf n = (firsts n n, true) := by simp [firstOf, h, firsts]
theorem firstOf_no {n : Int} (h : ¬ inB n 1 8 = true) : firstOf n = ([], false) := by simp [firstOf, h]

end Go.Proofs.Ytkkhlkaieohklaa

/- The model's functions of chapter 1, by their contracts: places that refuse, distances, lucky cars. -/
import Derived.Test.YtnjkmmomekjdaaaSpecB
namespace Go.Proofs.Ytnjkmmomekjdaaa
open Go.RowKit

set_option maxHeartbeats 400000 in
theorem specRefusing_any (a : Option Addr) (n cap : Nat) (xs : List Int) (p : Int) (w : World) (h : Has w a n cap xs) :
    Calls Try.prog 31 #[.slice a n cap, .int .i64 p] w (PostInt w (refusing xs p)) := by
  by_cases hg : good xs p = true
  · have HR : Hid (refusing xs p = refuseAt xs p p.toNat) := hid (by simp [refusing, hg])
    obtain ⟨g1, g2, g3, g4⟩ := good_nth hg h.len
    have HG := hid hg
    clear hg
    go_enter Try.func31, Try.ntmps31
    go_wp2_with (go_at_call 62; refine (paGood_any _ _ _ _ _ _ h).mono ?_; rintro e w' ⟨rfl, rfl⟩; rw [HG.out])
    go_loop [6] (fun j => ∃ k : Nat, (k : Int) ≤ p ∧ j = .int .i64 ((k : Int) - 1) ∧ Hid (refuseAt xs p p.toNat = refuseAt xs p k)) (fun j => (intOf j + 1).toNat)
    case atStart => exact ⟨p.toNat, by omega, by rw [Int.toNat_of_nonneg (by omega)], hid rfl⟩
    case round =>
      obtain ⟨k, hk, rfl, HQ⟩ := hrel
      match k, hk, HQ with
      | 0, hk, HQ =>
        go_wp2_with fail
        go_ret2
        exact postInt (by rw [HR.out, HQ.out]; rfl) (Below.refl _ _)
      | k + 1, hk, HQ =>
        have e : ((k + 1 : Nat) : Int) - 1 = (k : Int) := by omega
        rw [e]
        have hfl := from_le xs k
        rw [h.len] at hfl
        by_cases ht : p - (k : Int) < (from' xs k : Int)
        · have HS : Hid (refuseAt xs p (k + 1) = ((k : Int), true)) := hid (by simp [refuseAt, ht])
          clear e
          go_wp2_with (go_at_call 68; refine (paFrom_any _ _ _ _ _ _ h).mono ?_; rintro e w' ⟨rfl, rfl⟩)
          go_ret2
          exact postInt (by rw [HR.out, HQ.out, HS.out]) (Below.refl _ _)
        · have HS : Hid (refuseAt xs p (k + 1) = refuseAt xs p k) := hid (by simp [refuseAt, ht])
          clear e
          go_wp2_with (go_at_call 68; refine (paFrom_any _ _ _ _ _ _ h).mono ?_; rintro e w' ⟨rfl, rfl⟩)
          go_round
          case rel => exact ⟨k, by omega, by go_num, hid (by rw [HQ.out, HS.out])⟩
          case measure => simp [intOf]
  · have HR : Hid (refusing xs p = (0, false)) := hid (by simp [refusing, hg])
    have HG := hid hg
    clear hg
    go_enter Try.func31, Try.ntmps31
    go_wp2_with (go_at_call 62; refine (paGood_any _ _ _ _ _ _ h).mono ?_; rintro e w' ⟨rfl, rfl⟩; rw [Bool.eq_false_iff.2 HG.out])
    go_ret2
    exact postInt HR.out (Below.refl _ _)

theorem dists_succ {p : Int} {xs : List Int} {k : Nat} (h : k < xs.length) : (dists p xs).take (k + 1) = (dists p xs).take k ++ [nth (drive p xs) k - nth xs k] := by
  rw [take_succ_nth (by rw [length_dists]; exact h), nth_dists h]

theorem drive_nth_bounds {p : Int} {xs : List Int} {n : Nat} (hn : xs.length = n) (hge : ∀ i, i < n → 0 ≤ nth xs i ∧ nth xs i ≤ p - 1) (hp : p ≤ 12) {k : Nat} (h : k < n) : -1 ≤ nth (drive p xs) k ∧ nth (drive p xs) k ≤ 12 := by
  rw [drive_get (by omega)]
  have := place_bounds (p := p) (out := drive p (xs.take k)) (x := nth xs k) (hge k h).1
  omega

set_option maxHeartbeats 400000 in
theorem paDistances_any (a : Option Addr) (n cap : Nat) (xs : List Int) (p : Int) (w : World) (h : Has w a n cap xs) (h8 : n ≤ 8) (hp : p ≤ 12) (hge : ∀ i, i < n → 0 ≤ nth xs i ∧ nth xs i ≤ p - 1) :
    Calls Try.prog 87 #[.slice a n cap, .int .i64 p] w fun e w' => ∃ a' cap', e = .returned (.slice a' n cap') ∧ Own w' w.heap.size a' n cap' (dists p xs) ∧ Below w.heap.size w w' := by
  have hlen := h.len
  go_enter Try.func87, Try.ntmps87
  go_wp2_with fail
  refine (paDrive_any _ _ _ _ _ _ h h8 hp hge).mono ?_
  rintro e w1 ⟨a1, cap1, rfl, hown1, hb1⟩
  go_wp2_with fail
  obtain ⟨h0, h1, h2, h3, h4⟩ := h.below hb1 (Nat.le_refl _)
  obtain ⟨k0, k1, k2, k3, k4⟩ := hown1.has
  have hsz := hb1.size
  clear h0 k0
  go_loopw [5, 12] (fun o i wr => ∃ (k : Nat) (a' : Option Addr) (cap' : Nat), k ≤ n ∧ i = .int .i64 k ∧ o = .slice a' k cap' ∧ Own wr w1.heap.size a' k cap' ((dists p xs).take k) ∧ Below w1.heap.size w1 wr) (fun _ i _ => n - (intOf i).toNat)
  case atStart => exact ⟨0, none, 0, Nat.zero_le _, rfl, rfl, Own.nil _ _, Below.refl _ _⟩
  case round =>
    obtain ⟨k, a', cap', hk, rfl, rfl, hown, hb⟩ := hrel
    by_cases hlt : k < n
    · obtain ⟨b, off, rfl, hbb, hc⟩ := h4 (by omega)
      obtain ⟨b', off', rfl, hbb', hc'⟩ := k4 (by omega)
      have hck : wr.cell? ⟨b, off + k, none⟩ = some (.int .i64 (nth xs k)) := by rw [hb.cell (p := ⟨b, off + k, none⟩) hbb]; exact hc k hlt
      have hdk : wr.cell? ⟨b', off' + k, none⟩ = some (.int .i64 (nth (drive p xs) k)) := by rw [hb.cell (p := ⟨b', off' + k, none⟩) hbb']; exact hc' k hlt
      obtain ⟨hx0, hx1⟩ := hge k hlt
      obtain ⟨hd0, hd1⟩ := drive_nth_bounds hlen hge hp hlt
      have HS := hid (dists_succ (p := p) (xs := xs) (k := k) (by omega))
      clear hc h4 hge hc' k4 hlen
      go_wp2_with (at_builtin; refine wpList_append_int _ rfl _ _ rfl w1.heap.size _ _ _ _ _ rfl rfl hown (by omega) hb.size ?_; intro a2 cap2 w2 hown2 hb2)
      go_roundw
      case rel => exact ⟨k + 1, a2, cap2, by omega, by go_num, rfl, by rw [HS.out]; exact hown2, hb.trans hb2⟩
      case measure => simp [intOf]; omega
    · obtain rfl : k = n := by omega
      go_wp2_with fail
      go_ret
      exact ⟨_, _, rfl, by rw [List.take_of_length_le (by rw [length_dists]; omega)] at hown; exact hown.mono hsz, hb1.trans (hb.mono hsz)⟩

set_option maxHeartbeats 400000 in
theorem specDistancesOf_any (a : Option Addr) (n cap : Nat) (xs : List Int) (p : Int) (w : World) (h : Has w a n cap xs) :
    Calls Try.prog 58 #[.slice a n cap, .int .i64 p] w (PostInts w (distsOf xs p)) := by
  by_cases hg : good xs p = true
  · obtain ⟨g1, g2, g3, g4⟩ := good_nth hg h.len
    by_cases ha : allPark p xs = true
    · have HR : Hid (distsOf xs p = (dists p xs, true)) := hid (by simp [distsOf, hg, ha])
      have HG := hid hg
      have HA := hid ha
      clear hg ha
      go_enter Try.func58, Try.ntmps58
      go_wp2_with (first | (go_at_call 62; refine (paGood_any _ _ _ _ _ _ h).mono ?_; rintro e w' ⟨rfl, rfl⟩; rw [HG.out]) | (go_at_call 63; refine (paAll_any _ _ _ _ _ _ h g1 g3 g4).mono ?_; rintro e w1 ⟨rfl, hb1⟩; rw [HA.out]))
      refine (paDistances_any _ _ _ _ _ _ (h.below hb1 (Nat.le_refl _)) g1 g3 g4).mono ?_
      rintro e w2 ⟨a2, cap2, rfl, hown2, hb2⟩
      go_wp2_with fail
      go_ret2
      exact postInts HR.out (hown2.mono hb1.size) (hb1.trans (hb2.mono hb1.size))
    · have HR : Hid (distsOf xs p = ([], false)) := hid (by simp [distsOf, hg, ha])
      have HG := hid hg
      have HA := hid ha
      clear hg ha
      go_enter Try.func58, Try.ntmps58
      go_wp2_with (first | (go_at_call 62; refine (paGood_any _ _ _ _ _ _ h).mono ?_; rintro e w' ⟨rfl, rfl⟩; rw [HG.out]) | (go_at_call 63; refine (paAll_any _ _ _ _ _ _ h g1 g3 g4).mono ?_; rintro e w1 ⟨rfl, hb1⟩; rw [Bool.eq_false_iff.2 HA.out]))
      go_ret2
      exact postInts_no HR.out hb1
  · have HR : Hid (distsOf xs p = ([], false)) := hid (by simp [distsOf, hg])
    have HG := hid hg
    clear hg
    go_enter Try.func58, Try.ntmps58
    go_wp2_with (go_at_call 62; refine (paGood_any _ _ _ _ _ _ h).mono ?_; rintro e w' ⟨rfl, rfl⟩; rw [Bool.eq_false_iff.2 HG.out])
    go_ret2
    exact postInts_no HR.out (Below.refl _ _)

/-- Distances are small numbers. -/
def Small (ys : List Int) : Prop := ∀ i, i < ys.length → -1000 ≤ nth ys i ∧ nth ys i ≤ 1000
theorem total_bounds {ys : List Int} (h : Small ys) : ∀ k, k ≤ ys.length → -1000 * (k : Int) ≤ total (ys.take k) ∧ total (ys.take k) ≤ 1000 * (k : Int)
  | 0, _ => by simp [total]
  | k + 1, hk => by
    have ih := total_bounds h k (by omega)
    have := h k (by omega)
    rw [total_succ (by omega)]
    omega
theorem small_dists {xs : List Int} {p : Int} (hg : good xs p = true) : Small (dists p xs) := by
  obtain ⟨g1, g2, g3, g4⟩ := good_nth hg rfl
  intro i hi
  rw [length_dists] at hi
  rw [nth_dists hi]
  have := drive_nth_bounds rfl g4 g3 hi
  have := g4 i hi
  omega

theorem dists_yes {xs : List Int} {p : Int} (h : (good xs p && allPark p xs) = true) : distsOf xs p = (dists p xs, true) := by simp [distsOf, h]
theorem dists_no {xs : List Int} {p : Int} (h : ¬ (good xs p && allPark p xs) = true) : distsOf xs p = ([], false) := by simp only [distsOf, if_neg h]

end Go.Proofs.Ytnjkmmomekjdaaa

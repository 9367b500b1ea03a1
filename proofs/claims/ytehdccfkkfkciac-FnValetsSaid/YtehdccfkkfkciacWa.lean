/- Chapter 9: how many cars find a place taken: both functions, by their contracts. -/
import Derived.Test.YtehdccfkkfkciacMathUa
import Derived.Test.YtehdccfkkfkciacSpecC
import Derived.Test.YtehdccfkkfkciacLawKit
import Derived.Test.YtehdccfkkfkciacImplC
namespace Go.Proofs.Ytehdccfkkfkciac
open Go.RowKit

def bumpTo (ys : List Int) (c : Nat) : Nat → List Int
  | 0 => ys
  | d + 1 => (bumpTo ys c d).set (c + d) (nth (bumpTo ys c d) (c + d) + 1)
def wTo (P : Nat) (xs ds : List Int) : Nat → List Int
  | 0 => List.replicate P 0
  | k + 1 => bumpTo (wTo P xs ds k) (nth xs k).toNat (nth ds k - nth xs k).toNat
def waitsOf (xs : List Int) (p : Int) : List Int × Bool := if good xs p && allPark p xs then (wTo p.toNat xs (drive p xs) xs.length, true) else ([], false)
theorem length_bumpTo (ys : List Int) (c : Nat) : ∀ d, (bumpTo ys c d).length = ys.length
  | 0 => rfl
  | d + 1 => by rw [bumpTo, List.length_set, length_bumpTo ys c d]
theorem nth_bumpTo {ys : List Int} {c : Nat} : ∀ d, c + d ≤ ys.length → ∀ j, nth (bumpTo ys c d) j = nth ys j + if c ≤ j ∧ j < c + d then 1 else 0
  | 0, _, j => by rw [bumpTo, if_neg (by omega), Int.add_zero]
  | d + 1, h, j => by
    rw [bumpTo, nth_set (by rw [length_bumpTo]; omega), nth_bumpTo d (by omega) j, nth_bumpTo d (by omega) (c + d)]
    by_cases e : c + d = j
    · subst e
      rw [if_pos rfl, if_neg (by omega), if_pos (by omega)]
      omega
    · rw [if_neg e]
      by_cases e2 : c ≤ j ∧ j < c + d
      · rw [if_pos e2, if_pos (by omega)]
      · rw [if_neg e2, if_neg (by omega)]
theorem length_wTo (P : Nat) (xs ds : List Int) : ∀ k, (wTo P xs ds k).length = P
  | 0 => by simp [wTo]
  | k + 1 => by rw [wTo, length_bumpTo, length_wTo P xs ds k]
/-- A car's favourite and its place. -/
theorem waits_car {xs : List Int} {p : Int} (h : (good xs p && allPark p xs) = true) {k : Nat} (hk : k < xs.length) : ∃ c d : Nat, nth xs k = (c : Int) ∧ nth (drive p xs) k = ((c + d : Nat) : Int) ∧ ((c + d : Nat) : Int) < p := by
  obtain ⟨h1, h2⟩ := Bool.and_eq_true_iff.1 h
  have hb := (good_iff.1 h1).2.2
  have b1 := hb _ (nth_mem hk)
  have b2 := drive_bounds hb h2 _ (nth_mem (xs := drive p xs) (i := k) (by rw [length_drive]; exact hk))
  have b3 := (place_bounds (p := p) (out := drive p (xs.take k)) b1.1).2.2
  rw [← drive_get hk] at b3
  exact ⟨(nth xs k).toNat, (nth (drive p xs) k - nth xs k).toNat, by omega, by omega, by omega⟩
theorem wTo_bounds {xs : List Int} {P : Nat} (h : (good xs (P : Int) && allPark (P : Int) xs) = true) : ∀ k, k ≤ xs.length → ∀ j, 0 ≤ nth (wTo P xs (drive (P : Int) xs) k) j ∧ nth (wTo P xs (drive (P : Int) xs) k) j ≤ k
  | 0, _, j => by
    by_cases e : j < P
    · simp [wTo, nth, e]
    · simp [wTo, nth, e]
  | k + 1, hk, j => by
    obtain ⟨c, d, h1, h2, h3⟩ := waits_car h (k := k) (by omega)
    have ih := wTo_bounds h k (by omega) j
    rw [wTo, h1, h2, Int.toNat_natCast, show (((c + d : Nat) : Int) - (c : Int)).toNat = d by omega, nth_bumpTo d (by rw [length_wTo]; omega) j]
    split <;> omega
theorem waits_yes {xs : List Int} {P n : Nat} (h : (good xs (P : Int) && allPark (P : Int) xs) = true) (hn : xs.length = n) : waitsOf xs P = (wTo P xs (drive (P : Int) xs) n, true) := by
  subst hn
  simp only [waitsOf, if_pos h, Int.toNat_natCast]
theorem waits_no {xs : List Int} {p : Int} (h : ¬ (good xs p && allPark p xs) = true) : waitsOf xs p = ([], false) := by simp only [waitsOf, if_neg h]
/-- What is known of a car on its round. -/
def Car9 (xs ds : List Int) (P k c d : Nat) : Prop := nth xs k = (c : Int) ∧ nth ds k = ((c + d : Nat) : Int) ∧ c + d < P ∧ wTo P xs ds (k + 1) = bumpTo (wTo P xs ds k) c d ∧ (∀ j, j ≤ d → ∀ i, 0 ≤ nth (bumpTo (wTo P xs ds k) c j) i ∧ nth (bumpTo (wTo P xs ds k) c j) i ≤ 100)
theorem car9 {xs : List Int} {P n : Nat} (h : (good xs (P : Int) && allPark (P : Int) xs) = true) (hn : xs.length = n) (h8 : n ≤ 8) {k : Nat} (hk : k < n) : ∃ c d, Car9 xs (drive (P : Int) xs) P k c d := by
  obtain ⟨c, d, h1, h2, h3⟩ := waits_car h (k := k) (by omega)
  refine ⟨c, d, h1, h2, by omega, ?_, fun j hj i => ?_⟩
  · rw [wTo, h1, h2, Int.toNat_natCast, show (((c + d : Nat) : Int) - (c : Int)).toNat = d by omega]
  · have := wTo_bounds h k (by omega) i
    rw [nth_bumpTo j (by rw [length_wTo]; omega) i]
    split <;> omega

set_option maxHeartbeats 2000000 in
theorem specWaits_any (a : Option Addr) (n cap : Nat) (xs : List Int) (p : Int) (w : World) (h : Has w a n cap xs) :
    Calls Try.prog 23 #[.slice a n cap, .int .i64 p] w (PostInts w (waitsOf xs p)) := by
  by_cases hg : good xs p = true
  · obtain ⟨g1, g2, g3, g4⟩ := good_nth hg h.len
    by_cases ha : allPark p xs = true
    · obtain ⟨P, rfl⟩ : ∃ P : Nat, p = (P : Int) := ⟨p.toNat, by omega⟩
      have HR := hid (waits_yes (by rw [hg, ha]; rfl) h.len)
      have HC := hid (fun k (hk : k < n) => car9 (by rw [hg, ha]; rfl) h.len g1 hk)
      have HG := hid hg
      have HA := hid ha
      have G4 := hid g4
      clear hg ha g4
      go_enter Try.func23, Try.ntmps23
      go_wp2_with (first | (go_at_call 34; refine (paGood_any _ _ _ _ _ _ h).mono ?_; rintro e w' ⟨rfl, rfl⟩; rw [HG.out]) | (go_at_call 35; refine (paAll_any _ _ _ _ _ _ h g1 g3 G4.out).mono ?_; rintro e w1 ⟨rfl, hb1⟩; rw [HA.out]) | (at_make; refine wpList_make_ints _ rfl _ _ rfl P rfl rfl (by omega) ?_; intro a2 cap2 w2 hown2 hb2))
      have hb12 := hb1.trans (hb2.mono hb1.size)
      refine (paDrive_any _ _ _ _ _ _ (h.below hb12 (Nat.le_refl _)) g1 g3 G4.out).mono ?_
      rintro e w3 ⟨a3, cap3, rfl, hown3, hb3⟩
      have hb13 := hb12.trans (hb3.mono hb12.size)
      have hown2' := (hown2.mono hb1.size).below hb3 (Nat.le_refl _)
      have hlt2 := hown2.lt
      have hge3 := hown3.has
      have hsz3 := hb13.size
      generalize drive (P : Int) xs = ds at *
      clear hown2 hb1 hb2 hb3 hb12
      go_wp2_with fail
      go_loopw [26] (fun i wr => ∃ k : Nat, k ≤ n ∧ i = .int .i64 (k : Int) ∧ Own wr w.heap.size a2 P cap2 (wTo P xs ds k) ∧ Own wr w2.heap.size a3 n cap3 ds ∧ Below w.heap.size w wr) (fun i _ => n - (intOf i).toNat)
      case atStart => exact ⟨0, Nat.zero_le _, rfl, hown2', hown3, hb13⟩
      case round =>
        obtain ⟨wo, rfl⟩ : ∃ wo : World, wo = wr := ⟨_, rfl⟩
        clear hown2' hown3 hge3 hb13
        obtain ⟨k, hk, rfl, hz, hd, hb⟩ := hrel
        by_cases hlt : k < n
        · obtain ⟨c, d, c1, c2, c3, c4, c5⟩ := HC.out k hlt
          have C4 := hid c4
          have C5 := hid c5
          obtain ⟨b1, off1, rfl, hbb1, hx1⟩ := h.2.2.2.2 (by omega)
          obtain ⟨g3', rfl, q1, q2, q3, q4⟩ := hd.opened (by omega)
          have hck : wo.cell? ⟨b1, off1 + k, none⟩ = some (.int .i64 (c : Int)) := by rw [hb.cell (p := ⟨b1, off1 + k, none⟩) hbb1, hx1 k hlt, c1]
          have hdk : wo.cell? ⟨g3', k, none⟩ = some (.int .i64 ((c + d : Nat) : Int)) := by rw [q3 k hlt, c2]
          have z1 : (k : Int) < (n : Int) := by omega
          clear hx1 q3 q4 c1 c2 c4 c5
          go_wp2_with fail
          go_loopw [9] (fun x wr => ∃ j : Nat, j ≤ d ∧ x = .int .i64 ((c + j : Nat) : Int) ∧ Own wr w.heap.size a2 P cap2 (bumpTo (wTo P xs ds k) c j) ∧ Own wr w2.heap.size (some ⟨g3', 0, none⟩) n cap3 ds ∧ Below w.heap.size w wr) (fun x _ => (c + d) - (intOf x).toNat)
          case atStart => exact ⟨0, Nat.zero_le _, rfl, hz, hd, hb⟩
          case round =>
            clear hz hd hb hck hdk
            obtain ⟨j, hj, rfl, hz, hd, hb⟩ := hrel
            by_cases hlj : j < d
            · obtain ⟨g2', rfl, r1, r2, r3, r4⟩ := hz.opened (by omega)
              have hgk := r3 (c + j) (by omega)
              have hgf := r4 (c + j)
              obtain ⟨b5, b6⟩ := C5.out j hj (c + j)
              have hne : g2' ≠ g3' := by have := hlt2 _ rfl; simp at this; omega
              obtain ⟨s1, s2⟩ := hz.set (c + j) (nth (bumpTo (wTo P xs ds k) c j) (c + j) + 1)
              have hd2 := hd.kept s2 (.inr (fun p hp => by cases hp; exact fun e => hne e.symm))
              have hb5 := hb.setCell (p := ⟨g2', c + j, none⟩) r1 (.int .i64 (nth (bumpTo (wTo P xs ds k) c j) (c + j) + 1))
              have S1 : Own (wr.setCell ⟨g2', c + j, none⟩ (.int .i64 (nth (bumpTo (wTo P xs ds k) c j) (c + j) + 1))) w.heap.size (some ⟨g2', 0, none⟩) P cap2 (bumpTo (wTo P xs ds k) c (j + 1)) := s1
              have z2 : ((c + j : Nat) : Int) < ((c + d : Nat) : Int) := by omega
              have z3 : ((c + j : Nat) : Int) < (P : Int) := by omega
              clear r3 r4 s1
              generalize nth (bumpTo (wTo P xs ds k) c j) (c + j) = v at *
              go_wp2_with fail
              go_roundw
              case rel => exact ⟨j + 1, by omega, by go_num, S1, hd2, hb5⟩
              case measure => simp [intOf]; omega
            · obtain rfl : j = d := by omega
              have z2 : ¬ ((c + j : Nat) : Int) < ((c + j : Nat) : Int) := by omega
              go_wp2_with fail
              go_roundw
              case rel => exact ⟨k + 1, by omega, by go_num, by rw [C4.out]; exact hz, hd, hb⟩
              case measure => simp [intOf]; omega
        · obtain rfl : k = n := by omega
          go_wp2_with fail
          go_ret2
          exact postInts HR.out hz hb
    · have HR := hid (waits_no (xs := xs) (p := p) (by rw [hg]; simpa using ha))
      have HG := hid hg
      have HA := hid ha
      clear hg ha
      go_enter Try.func23, Try.ntmps23
      go_wp2_with (first | (go_at_call 34; refine (paGood_any _ _ _ _ _ _ h).mono ?_; rintro e w' ⟨rfl, rfl⟩; rw [HG.out]) | (go_at_call 35; refine (paAll_any _ _ _ _ _ _ h g1 g3 g4).mono ?_; rintro e w1 ⟨rfl, hb1⟩; rw [Bool.eq_false_iff.2 HA.out]))
      go_ret2
      exact postInts_no HR.out hb1
  · have HR := hid (waits_no (xs := xs) (p := p) (by simpa using fun h => absurd h hg))
    have HG := hid hg
    clear hg
    go_enter Try.func23, Try.ntmps23
    go_wp2_with (go_at_call 34; refine (paGood_any _ _ _ _ _ _ h).mono ?_; rintro e w' ⟨rfl, rfl⟩; rw [Bool.eq_false_iff.2 HG.out])
    go_ret2
    exact postInts_no HR.out (Below.refl _ _)

set_option maxHeartbeats 2000000 in
theorem implWaits_any (a : Option Addr) (n cap : Nat) (xs : List Int) (p : Int) (w : World) (h : Has w a n cap xs) :
    Calls Try.prog 22 #[.slice a n cap, .int .i64 p] w (PostInts w (waitsOf xs p)) := by
  by_cases hg : (good xs p && allPark p xs) = true
  · obtain ⟨g1, g2, g3, g4⟩ := good_nth (Bool.and_eq_true_iff.1 hg).1 h.len
    obtain ⟨P, rfl⟩ : ∃ P : Nat, p = (P : Int) := ⟨p.toNat, by omega⟩
    have HR := hid (waits_yes hg h.len)
    have HD := hid (drive_yes hg)
    have HC := hid (fun k (hk : k < n) => car9 hg h.len g1 hk)
    have HLD : Hid ((drive (P : Int) xs).length = n) := hid (by rw [length_drive]; exact h.len)
    clear hg g4
    go_enter Try.func22, Try.ntmps22
    go_wp2_with fail
    refine (driveCars_any _ _ _ _ _ _ h).mono ?_
    rw [HD.out]
    rintro e w2 ⟨a3, m, cap3, rfl, hown3, hb2⟩
    obtain rfl : n = m := by rw [← HLD.out]; exact hown3.len
    clear HD HLD
    generalize drive (P : Int) xs = ds at *
    go_wp2_with (at_make; refine wpList_make_ints _ rfl _ _ rfl P rfl rfl (by omega) ?_; intro a2 cap2 w3 hown2 hb3)
    have hb13 := hb2.trans (hb3.mono hb2.size)
    have hown3' := hown3.below hb3 (Nat.le_refl _)
    have hlt3 := hown3.lt
    have hsz3 := hb13.size
    have hsz2 := hb2.size
    clear hb2 hb3 hown3
    go_loopw [24] (fun i wr => ∃ k : Nat, k ≤ n ∧ i = .int .i64 (k : Int) ∧ Own wr w2.heap.size a2 P cap2 (wTo P xs ds k) ∧ Own wr w.heap.size a3 n cap3 ds ∧ Below w.heap.size w wr) (fun i _ => n - (intOf i).toNat)
    case atStart => exact ⟨0, Nat.zero_le _, rfl, hown2, hown3', hb13⟩
    case round =>
      obtain ⟨wo, rfl⟩ : ∃ wo : World, wo = wr := ⟨_, rfl⟩
      clear hown2 hown3' hb13
      obtain ⟨k, hk, rfl, hz, hd, hb⟩ := hrel
      by_cases hlt : k < n
      · obtain ⟨c, d, c1, c2, c3, c4, c5⟩ := HC.out k hlt
        have C4 := hid c4
        have C5 := hid c5
        obtain ⟨b1, off1, rfl, hbb1, hx1⟩ := h.2.2.2.2 (by omega)
        obtain ⟨g3', rfl, q1, q2, q3, q4⟩ := hd.opened (by omega)
        have hck : wo.cell? ⟨b1, off1 + k, none⟩ = some (.int .i64 (c : Int)) := by rw [hb.cell (p := ⟨b1, off1 + k, none⟩) hbb1, hx1 k hlt, c1]
        have hg3l := hlt3 _ rfl
        simp only at hg3l
        clear hx1 q3 q4 c1 c4 c5
        go_wp2_with fail
        go_loopw [11] (fun x wr => ∃ j : Nat, j ≤ d ∧ x = .int .i64 ((c + j : Nat) : Int) ∧ Own wr w2.heap.size a2 P cap2 (bumpTo (wTo P xs ds k) c j) ∧ Own wr w.heap.size (some ⟨g3', 0, none⟩) n cap3 ds ∧ Below w.heap.size w wr) (fun x _ => (c + d) - (intOf x).toNat)
        case atStart => exact ⟨0, Nat.zero_le _, rfl, hz, hd, hb⟩
        case round =>
          clear hz hd hb hck
          obtain ⟨j, hj, rfl, hz, hd, hb⟩ := hrel
          obtain ⟨g9, e9, _, _, q3, _⟩ := hd.opened (by omega)
          cases e9
          have hdk : wr.cell? ⟨g3', k, none⟩ = some (.int .i64 ((c + d : Nat) : Int)) := by rw [q3 k hlt, c2]
          have z1 : (k : Int) < (n : Int) := by omega
          clear q3
          by_cases hlj : j < d
          · obtain ⟨g2', rfl, r1, r2, r3, r4⟩ := hz.opened (by omega)
            have hgk := r3 (c + j) (by omega)
            have hgf := r4 (c + j)
            obtain ⟨b5, b6⟩ := C5.out j hj (c + j)
            have hne : g2' ≠ g3' := by omega
            obtain ⟨s1, s2⟩ := hz.set (c + j) (nth (bumpTo (wTo P xs ds k) c j) (c + j) + 1)
            have hd2 := hd.kept s2 (.inr (fun p hp => by cases hp; exact fun e => hne e.symm))
            have hb5 := hb.setCell (p := ⟨g2', c + j, none⟩) (by simp; omega) (.int .i64 (nth (bumpTo (wTo P xs ds k) c j) (c + j) + 1))
            have S1 : Own (wr.setCell ⟨g2', c + j, none⟩ (.int .i64 (nth (bumpTo (wTo P xs ds k) c j) (c + j) + 1))) w2.heap.size (some ⟨g2', 0, none⟩) P cap2 (bumpTo (wTo P xs ds k) c (j + 1)) := s1
            have z2 : ((c + j : Nat) : Int) < ((c + d : Nat) : Int) := by omega
            have z3 : ((c + j : Nat) : Int) < (P : Int) := by omega
            clear r3 r4 s1
            generalize nth (bumpTo (wTo P xs ds k) c j) (c + j) = v at *
            go_wp2_with fail
            go_roundw
            case rel => exact ⟨j + 1, by omega, by go_num, S1, hd2, hb5⟩
            case measure => simp [intOf]; omega
          · obtain rfl : j = d := by omega
            have z2 : ¬ ((c + j : Nat) : Int) < ((c + j : Nat) : Int) := by omega
            go_wp2_with fail
            go_roundw
            case rel => exact ⟨k + 1, by omega, by go_num, by rw [C4.out]; exact hz, hd, hb⟩
            case measure => simp [intOf]; omega
      · obtain rfl : k = n := by omega
        go_wp2_with fail
        go_ret2
        exact postInts HR.out (hz.mono hsz2) hb
  · have HR := hid (waits_no hg)
    have HD := hid (drive_no hg)
    clear hg
    go_enter Try.func22, Try.ntmps22
    go_wp2_with fail
    refine (driveCars_any _ _ _ _ _ _ h).mono ?_
    rw [HD.out]
    rintro e w1 ⟨a1, m, cap1, rfl, hown, hb⟩
    go_wp2_with fail
    go_ret2
    exact postInts_no HR.out hb
end Go.Proofs.Ytehdccfkkfkciac

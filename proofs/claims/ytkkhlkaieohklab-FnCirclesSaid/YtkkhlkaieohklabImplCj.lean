/- Turned favourites and the parking function of a class: the program's functions, by their contracts. -/
import Derived.Test.YtkkhlkaieohklabImplCr
import Derived.Test.YtkkhlkaieohklabTby
import Derived.IntWalk
namespace Go.Proofs.Ytkkhlkaieohklab
open Go.RowKit

theorem length_turnC (xs : List Int) (p b : Int) : (turn xs p b).length = xs.length := by simp [turn]
theorem nth_turnC {xs : List Int} {p b : Int} {i : Nat} (h : i < xs.length) : nth (turn xs p b) i = (nth xs i + b) % p := by simp [nth, turn, h]

set_option maxHeartbeats 800000 in
theorem turnFavourites_any (a : Option Addr) (n cap : Nat) (xs : List Int) (p b : Int) (w : World) (h : Has w a n cap xs) :
    Calls Try.prog 12 #[.slice a n cap, .int .i64 p, .int .i64 b] w (PostInts w (turnOf xs p b)) := by
  by_cases hg : good xs p = true
  · obtain ⟨q, rfl⟩ : ∃ q : Nat, p = (q : Int) := ⟨p.toNat, by have := (good_iff.1 hg).1; omega⟩
    obtain ⟨g1, g2, g3, g4⟩ := good_nth' hg h.len
    have HX : Hid (∀ i, i < n → 0 ≤ nth xs i ∧ nth xs i < (q : Int)) := hid (fun i hi => by have := g4 i hi; omega)
    by_cases hb0 : -1000 ≤ b
    · by_cases hb1 : b ≤ 1000
      · have HR := hid (turnOf_yes hg (inB_iff.2 ⟨hb0, hb1⟩))
        have HG := hid hg
        clear hg g4
        go_enter Try.func12, Try.ntmps12
        go_wp2_with (go_at_call 36; refine (areFavourites_any _ _ _ _ _ _ h).mono ?_; rintro e w' ⟨rfl, rfl⟩; rw [HG.out])
        refine (turnedBy_any _ _ _ _ q b _ h (by omega) (by omega) HX).mono ?_
        rintro e w2 ⟨a2, cap2, rfl, hown2, hb2⟩
        go_wp2_with fail
        go_ret2
        exact postInts HR.out hown2 hb2
      · have HR := hid (turnOf_no2 (xs := xs) (p := (q : Int)) (b := b) (by rw [Bool.not_eq_true, inB_not]; omega))
        have HG := hid hg
        clear hg
        go_enter Try.func12, Try.ntmps12
        go_wp2_with (go_at_call 36; refine (areFavourites_any _ _ _ _ _ _ h).mono ?_; rintro e w' ⟨rfl, rfl⟩; rw [HG.out])
        go_ret2
        exact postInts_no HR.out (Below.refl _ _)
    · have HR := hid (turnOf_no2 (xs := xs) (p := (q : Int)) (b := b) (by rw [Bool.not_eq_true, inB_not]; omega))
      have HG := hid hg
      clear hg
      go_enter Try.func12, Try.ntmps12
      go_wp2_with (go_at_call 36; refine (areFavourites_any _ _ _ _ _ _ h).mono ?_; rintro e w' ⟨rfl, rfl⟩; rw [HG.out])
      go_ret2
      exact postInts_no HR.out (Below.refl _ _)
  · have HR := hid (turnOf_no1 (b := b) hg)
    have HG := hid hg
    clear hg
    go_enter Try.func12, Try.ntmps12
    go_wp2_with (go_at_call 36; refine (areFavourites_any _ _ _ _ _ _ h).mono ?_; rintro e w' ⟨rfl, rfl⟩; rw [Bool.eq_false_iff.2 HG.out])
    go_ret2
    exact postInts_no HR.out (Below.refl _ _)

theorem turnOf_circ {xs : List Int} {n : Nat} (h8 : n ≤ 8) (hn : xs.length = n) (hg : circB xs = true) : turnOf xs ((n : Int) + 1) ((n : Int) - cfree xs) = (turn xs ((n : Int) + 1) ((n : Int) - cfree xs), true) := by
  subst hn
  have h1 := circ_good h8
  rw [hg] at h1
  obtain ⟨f0, f1, -, -, -⟩ := cfree_spec hg
  exact turnOf_yes h1.symm (inB_iff.2 ⟨by omega, by omega⟩)

set_option maxHeartbeats 800000 in
theorem parkingOfClass_any (a : Option Addr) (n cap : Nat) (xs : List Int) (w : World) (h : Has w a n cap xs) :
    Calls Try.prog 7 #[.slice a n cap] w (PostIntsInt w (classOf xs)) := by
  have hle := h.le
  by_cases hg : circB xs = true
  · have HR := hid (classOf_yes hg h.len)
    obtain ⟨h8, hge⟩ := circ_nth hg h.len
    obtain ⟨f0, f1, -, -, -⟩ := cfree_spec hg
    rw [h.len] at f1
    have HT := hid (turnOf_circ h8 h.len hg)
    have HF : Hid (freeOf xs = (cfree xs, true)) := hid (by simp [freeOf, hg])
    clear hg hge
    go_enter Try.func7, Try.ntmps7
    go_wp2_with fail
    refine (freeOnCircle_any _ _ _ _ _ h).mono ?_
    rw [HF.out]
    rintro e w2 ⟨rfl, hb2⟩
    go_wp2_with fail
    refine (turnFavourites_any _ _ _ _ _ _ _ (h.below hb2 (Nat.le_refl _))).mono ?_
    rw [HT.out]
    rintro e w3 ⟨a3, n3, cap3, rfl, hown3, hb3⟩
    go_wp2_with fail
    exact bodyPost_ret (v := .tuple #[.slice a3 n3 cap3, .int .i64 ((n : Int) - cfree xs), .bool true]) (by simp [results, Try.results7, go_sem]) rfl (postIntsInt HR.out (hown3.mono hb2.size) (hb2.trans (hb3.mono hb2.size)))
  · have HR := hid (classOf_no hg)
    have HF : Hid (freeOf xs = (0, false)) := hid (by simp [freeOf, hg])
    clear hg
    go_enter Try.func7, Try.ntmps7
    go_wp2_with fail
    refine (freeOnCircle_any _ _ _ _ _ h).mono ?_
    rw [HF.out]
    rintro e w2 ⟨rfl, hb2⟩
    go_wp2_with fail
    exact bodyPost_ret (v := .tuple #[.slice none 0 0, .int .i64 0, .bool false]) (by simp [results, Try.results7, go_sem]) rfl (postIntsInt HR.out (Own.nil _ _) hb2)
end Go.Proofs.Ytkkhlkaieohklab

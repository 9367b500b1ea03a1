/- Turned favourites and the parking function of a class: the program's functions, by their contracts. -/
import Derived.Test.YtabhhmnilidppabImplCi
import Derived.IntWalk
namespace Go.Proofs.Ytabhhmnilidppab
open Go.RowKit

theorem length_turn (xs : List Int) (p b : Int) : (turn xs p b).length = xs.length := by simp [turn]
theorem nth_turn {xs : List Int} {p b : Int} {i : Nat} (h : i < xs.length) : nth (turn xs p b) i = (nth xs i + b) % p := by simp [nth, turn, h]

theorem turn_tmod4 (x b p : Int) : (x + b.tmod p) % p = (x + b) % p := by
  have h1 := Int.tmod_add_mul_tdiv b p
  conv => rhs; rw [← h1]
  rw [← Int.add_assoc, Int.add_mul_emod_self_left]

set_option maxHeartbeats 1600000 in
theorem turnFavourites_any (a : Option Addr) (n cap : Nat) (xs : List Int) (p b : Int) (w : World) (h : Has w a n cap xs) :
    Calls Try.prog 56 #[.slice a n cap, .int .i64 p, .int .i64 b] w (PostInts w (turnOf xs p b)) := by
  by_cases hg : good xs p = true
  · obtain ⟨q, rfl⟩ : ∃ q : Nat, p = (q : Int) := ⟨p.toNat, by have := (good_iff.1 hg).1; omega⟩
    obtain ⟨g1, g2, g3, g4⟩ := good_nth' hg h.len
    by_cases hb0 : -1000 ≤ b
    · by_cases hb1 : b ≤ 1000
      · have HR := hid (turnOf_yes hg (inB_iff.2 ⟨hb0, hb1⟩))
        have HG := hid hg
        have HGE := hid g4
        have HLEN := hid h.len
        have hp1 : (0 : Int) < (q : Int) := by omega
        have hpz : ¬ (q : Int) = 0 := by omega
        obtain ⟨t0, t1⟩ := tmod_bounds b q hp1
        clear hg g4
        go_enter Try.func56, Try.ntmps56
        go_wp2_with (first | (go_at_call 105; refine (areFavourites_any _ _ _ _ _ _ h).mono ?_; rintro e w' ⟨rfl, rfl⟩; rw [HG.out]) | (at_make; refine wpList_make_ints _ rfl _ _ rfl n rfl rfl (by omega) ?_; intro a1 cap1 w1 hown1 hb1))
        go_loopw [28] (fun i wr => ∃ (k : Nat) (zs : List Int), k ≤ n ∧ i = .int .i64 (k : Int) ∧ Own wr w.heap.size a1 n cap1 zs ∧ Hid (FromTo (turn xs q b) zs k) ∧ Below w.heap.size w wr) (fun i _ => n - (intOf i).toNat)
        case atStart => exact ⟨0, _, Nat.zero_le _, rfl, hown1, hid (fun i hi => by omega), hb1⟩
        case round =>
          clear hown1 hb1
          obtain ⟨k, zs, hk, rfl, hz, HF, hb⟩ := hrel
          by_cases hlt : k < n
          · obtain ⟨b', off, rfl, hbb, hc⟩ := h.2.2.2.2 (by omega)
            have hck : wr.cell? ⟨b', off + k, none⟩ = some (.int .i64 (nth xs k)) := by rw [hb.cell (p := ⟨b', off + k, none⟩) hbb]; exact hc k hlt
            obtain ⟨x0, x1⟩ := HGE.out k hlt
            obtain ⟨g', rfl, hl1, hl2, hl3, hl4⟩ := hz.opened (by omega)
            have hgk := hl3 k (by omega)
            have hgf := hl4 k
            have HT := hid (turn_tmod4 (nth xs k) b q)
            have hm0 : 0 ≤ nth xs k + b.tmod q + q := by omega
            clear hc hl3 hl4
            go_wp2_with fail
            go_roundw
            case rel =>
              obtain ⟨s1, s2⟩ := hz.set k ((nth xs k + b.tmod q) % q)
              refine ⟨k + 1, _, by omega, by go_num, s1, hid ?_, hb.setCell hl1 _⟩
              intro i hi
              rw [nth_set (by rw [hz.len]; omega), nth_turn (by rw [HLEN.out]; omega)]
              split
              · subst_vars; rw [HT.out]
              · rw [HF.out i (by omega), nth_turn (by rw [HLEN.out]; omega)]
            case measure => simp [intOf]; omega
          · obtain rfl : n = k := by omega
            have HE : Hid (turn xs q b = zs) := hid (ext_nth (by rw [length_turn, hz.len, HLEN.out]) (fun i hi => (HF.out i (by rw [length_turn, HLEN.out] at hi; exact hi)).symm))
            go_wp2_with fail
            go_ret2
            exact postInts (by rw [HR.out, HE.out]) hz hb
      · have HR := hid (turnOf_no2 (xs := xs) (p := (q : Int)) (b := b) (by rw [Bool.not_eq_true, inB_not]; omega))
        have HG := hid hg
        clear hg
        go_enter Try.func56, Try.ntmps56
        go_wp2_with (go_at_call 105; refine (areFavourites_any _ _ _ _ _ _ h).mono ?_; rintro e w' ⟨rfl, rfl⟩; rw [HG.out])
        go_ret2
        exact postInts_no HR.out (Below.refl _ _)
    · have HR := hid (turnOf_no2 (xs := xs) (p := (q : Int)) (b := b) (by rw [Bool.not_eq_true, inB_not]; omega))
      have HG := hid hg
      clear hg
      go_enter Try.func56, Try.ntmps56
      go_wp2_with (go_at_call 105; refine (areFavourites_any _ _ _ _ _ _ h).mono ?_; rintro e w' ⟨rfl, rfl⟩; rw [HG.out])
      go_ret2
      exact postInts_no HR.out (Below.refl _ _)
  · have HR := hid (turnOf_no1 (b := b) hg)
    have HG := hid hg
    clear hg
    go_enter Try.func56, Try.ntmps56
    go_wp2_with (go_at_call 105; refine (areFavourites_any _ _ _ _ _ _ h).mono ?_; rintro e w' ⟨rfl, rfl⟩; rw [Bool.eq_false_iff.2 HG.out])
    go_ret2
    exact postInts_no HR.out (Below.refl _ _)

theorem turnOf_circ {xs : List Int} {n : Nat} (h8 : n ≤ 8) (hn : xs.length = n) (hg : circB xs = true) : turnOf xs ((n : Int) + 1) ((n : Int) - cfree xs) = (turn xs ((n : Int) + 1) ((n : Int) - cfree xs), true) := by
  subst hn
  have h1 := circ_good h8
  rw [hg] at h1
  obtain ⟨f0, f1, -, -, -⟩ := cfree_spec hg
  exact turnOf_yes h1.symm (inB_iff.2 ⟨by omega, by omega⟩)

set_option maxHeartbeats 800000 in
theorem parkingOfClass_any (a : Option Addr) (n cap : Nat) (xs : List Int) (w : World) (h : Has w a n cap xs) :
    Calls Try.prog 52 #[.slice a n cap] w (PostIntsInt w (classOf xs)) := by
  have hle := h.le
  by_cases hg : circB xs = true
  · have HR := hid (classOf_yes hg h.len)
    obtain ⟨h8, hge⟩ := circ_nth hg h.len
    obtain ⟨f0, f1, -, -, -⟩ := cfree_spec hg
    rw [h.len] at f1
    have HT := hid (turnOf_circ h8 h.len hg)
    have HF : Hid (freeOf xs = (cfree xs, true)) := hid (by simp [freeOf, hg])
    clear hg hge
    go_enter Try.func52, Try.ntmps52
    go_wp2_with fail
    refine (freeOnCircle_any _ _ _ _ _ h).mono ?_
    rw [HF.out]
    rintro e w2 ⟨rfl, hb2⟩
    go_wp2_with fail
    refine (turnFavourites_any _ _ _ _ _ _ _ (h.below hb2 (Nat.le_refl _))).mono ?_
    rw [HT.out]
    rintro e w3 ⟨a3, n3, cap3, rfl, hown3, hb3⟩
    go_wp2_with fail
    exact bodyPost_ret (v := .tuple #[.slice a3 n3 cap3, .int .i64 ((n : Int) - cfree xs), .bool true]) (by simp [results, Try.results52, go_sem]) rfl (postIntsInt HR.out (hown3.mono hb2.size) (hb2.trans (hb3.mono hb2.size)))
  · have HR := hid (classOf_no hg)
    have HF : Hid (freeOf xs = (0, false)) := hid (by simp [freeOf, hg])
    clear hg
    go_enter Try.func52, Try.ntmps52
    go_wp2_with fail
    refine (freeOnCircle_any _ _ _ _ _ h).mono ?_
    rw [HF.out]
    rintro e w2 ⟨rfl, hb2⟩
    go_wp2_with fail
    exact bodyPost_ret (v := .tuple #[.slice none 0 0, .int .i64 0, .bool false]) (by simp [results, Try.results52, go_sem]) rfl (postIntsInt HR.out (Own.nil _ _) hb2)
end Go.Proofs.Ytabhhmnilidppab

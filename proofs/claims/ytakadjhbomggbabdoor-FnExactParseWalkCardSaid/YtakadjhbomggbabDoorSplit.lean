/- The model's reader of texts: a string split at a byte, a number read. -/
import Derived.Test.YtakadjhbomggbabDoorStrs
import Derived.Test.YtakadjhbomggbabDoorSpecA
namespace Go.Proofs.YtakadjhbomggbabDoor
open Go.RowKit

/-- The pieces that have ended among the first i bytes, and where the next one begins. -/
def cutTo (s : ByteArray) (b : UInt8) : Nat → List ByteArray × Nat
  | 0 => ([], 0)
  | i + 1 => if s.data.toList.getD i 0 = b then ((cutTo s b i).1 ++ [s.extract (cutTo s b i).2 i], i + 1) else cutTo s b i
/-- A string, split at each occurrence of a byte. -/
def cutL (s : ByteArray) (b : UInt8) : List ByteArray := (cutTo s b s.size).1 ++ [s.extract (cutTo s b s.size).2 s.size]
theorem cutTo_le (s : ByteArray) (b : UInt8) : ∀ i, (cutTo s b i).2 ≤ i ∧ (cutTo s b i).1.length ≤ i
  | 0 => by simp [cutTo]
  | i + 1 => by
    have := cutTo_le s b i
    simp only [cutTo]
    split
    · simp; omega
    · omega

theorem get_at {s : ByteArray} {k : Nat} (h : k < s.size) : s.data.toList.getD k 0 = s[k] := by
  have h' : k < s.data.toList.length := by simpa using h
  rw [List.getD_eq_getElem?_getD, List.getElem?_eq_getElem h']
  rfl
theorem cutTo_yes {s : ByteArray} {b : UInt8} {k : Nat} (h : k < s.size) (he : s[k] = b) : cutTo s b (k + 1) = ((cutTo s b k).1 ++ [s.extract (cutTo s b k).2 k], k + 1) := by
  simp only [cutTo, get_at h, he, if_pos]
theorem cutTo_no {s : ByteArray} {b : UInt8} {k : Nat} (h : k < s.size) (he : s[k] ≠ b) : cutTo s b (k + 1) = cutTo s b k := by
  simp only [cutTo, get_at h, he, if_false]

set_option maxHeartbeats 1000000 in
theorem l1Split_any (s : ByteArray) (b : UInt8) (B : Int) (w : World) (hB : B = (b.toNat : Int)) (hs : s.size ≤ 1048576) :
    Calls Tryd.prog 9 #[.string s, .int .u8 B] w fun e w' => ∃ a' n' cap', e = .returned (.slice a' n' cap') ∧ n' ≤ s.size + 1 ∧ OwnS w' w.heap.size a' n' cap' (cutL s b) ∧ Below w.heap.size w w' := by
  subst hB
  go_enter Tryd.func9, Tryd.ntmps9
  go_wp2_with fail
  go_loopw [5, 6, 7] (fun o f i wr => ∃ (k q fr : Nat) (a' : Option Addr) (cap' : Nat), k ≤ s.size ∧ i = .int .i64 (k : Int) ∧ f = .int .i64 (fr : Int) ∧ fr ≤ k ∧ q ≤ k ∧ o = .slice a' q cap' ∧ OwnS wr w.heap.size a' q cap' (cutTo s b k).1 ∧ Hid ((cutTo s b k).2 = fr) ∧ Below w.heap.size w wr) (fun _ _ i _ => s.size - (intOf i).toNat)
  case atStart => exact ⟨0, 0, 0, none, 0, Nat.zero_le _, rfl, rfl, Nat.le_refl _, Nat.le_refl _, rfl, OwnS.nil _ _, hid rfl, Below.refl _ _⟩
  case round =>
    obtain ⟨k, q, fr, a', cap', hk, rfl, rfl, hfr, hq, rfl, hown, HF, hb⟩ := hrel
    have hsz := hb.size
    by_cases hlt : k < s.size
    · by_cases he : s[k] = b
      · have hbe : ((s[k].toNat : Int) == (b.toNat : Int)) = true := by rw [he]; simp
        have HC := hid (cutTo_yes (s := s) (b := b) hlt he)
        clear he
        go_wp2_with (at_builtin; refine wpList_append_intS _ rfl _ _ rfl w.heap.size _ _ _ _ _ rfl rfl hown (by omega) hsz ?_; intro a4 cap4 w4 hown4 hb4)
        go_roundw
        case rel => exact ⟨k + 1, q + 1, k + 1, a4, cap4, by omega, by go_num, by go_num, by omega, by omega, rfl, by rw [HC.out, HF.out]; exact hown4, hid (by rw [HC.out]), hb.trans hb4⟩
        case measure => simp [intOf]; omega
      · have hbe : ((s[k].toNat : Int) == (b.toNat : Int)) = false := by
          simp only [beq_eq_false_iff_ne, ne_eq]
          intro h
          exact he (UInt8.toNat_inj.1 (by omega))
        have HC := hid (cutTo_no (s := s) (b := b) hlt he)
        clear he
        go_wp2_with fail
        go_roundw
        case rel => exact ⟨k + 1, q, fr, a', cap', by omega, by go_num, rfl, by omega, by omega, rfl, by rw [HC.out]; exact hown, hid (by rw [HC.out]; exact HF.out), hb⟩
        case measure => simp [intOf]; omega
    · obtain rfl : k = s.size := by omega
      go_wp2_with (at_builtin; refine wpList_append_intS _ rfl _ _ rfl w.heap.size _ _ _ _ _ rfl rfl hown (by omega) hsz ?_; intro a4 cap4 w4 hown4 hb4)
      go_ret
      exact ⟨_, _, _, rfl, by omega, by unfold cutL; rw [HF.out]; exact hown4, hb.trans hb4⟩
/-- The first k letters are digits. -/
def digTo (s : ByteArray) (k : Nat) : Prop := ∀ i, i < k → 48 ≤ (s.data.toList.getD i 0).toNat ∧ (s.data.toList.getD i 0).toNat ≤ 57
/-- What the first k letters tell, as digits. -/
def valTo (s : ByteArray) : Nat → Int
  | 0 => 0
  | i + 1 => 10 * valTo s i + (((s.data.toList.getD i 0).toNat : Int) - 48)
instance (s : ByteArray) (k : Nat) : Decidable (digTo s k) := by unfold digTo; infer_instance
/-- The number that a text tells, or -1. -/
def readB (s : ByteArray) : Int := if (1 ≤ s.size ∧ s.size ≤ 6) ∧ ¬ (s.data.toList.getD 0 0 = 48 ∧ 1 < s.size) ∧ digTo s s.size then valTo s s.size else -1
theorem valTo_succ {s : ByteArray} {k : Nat} (h : k < s.size) : valTo s (k + 1) = 10 * valTo s k + ((s[k].toNat : Int) - 48) := by
  simp only [valTo, get_at h]
theorem digTo_succ {s : ByteArray} {k : Nat} (h : digTo s k) (hk : k < s.size) (h1 : 48 ≤ s[k].toNat) (h2 : s[k].toNat ≤ 57) : digTo s (k + 1) := fun i hi => by
  by_cases e : i = k
  · subst e; rw [get_at hk]; exact ⟨h1, h2⟩
  · exact h i (by omega)
theorem valTo_bound {s : ByteArray} : ∀ {k : Nat}, digTo s k → 0 ≤ valTo s k ∧ valTo s k < (10 : Int) ^ k
  | 0, _ => by simp [valTo]
  | k + 1, h => by
    have ih := valTo_bound (k := k) fun i hi => h i (by omega)
    have hd := h k (by omega)
    simp only [valTo]
    have e : (10 : Int) ^ (k + 1) = 10 * (10 : Int) ^ k := by rw [Int.pow_succ]; omega
    rw [e]
    generalize (10 : Int) ^ k = p at *
    omega
theorem valTo_le {s : ByteArray} {k : Nat} (h : digTo s k) (hk : k ≤ s.size) (h6 : (s.size : Int) ≤ 6) : 0 ≤ valTo s k ∧ valTo s k ≤ 1000000 := by
  have := valTo_bound h
  have h2 : (10 : Int) ^ k ≤ 1000000 := by
    have : ∀ k, k < 7 → (10 : Int) ^ k ≤ 1000000 := by decide +kernel
    exact this k (by omega)
  omega
theorem readB_bad {s : ByteArray} {k : Nat} (h : k < s.size) (hd : ¬ (48 ≤ s[k].toNat ∧ s[k].toNat ≤ 57)) : readB s = -1 := by
  unfold readB
  rw [if_neg]
  rintro ⟨_, _, h3⟩
  have := h3 k h
  rw [get_at h] at this
  exact hd this
theorem readB_good {s : ByteArray} (h : 1 ≤ (s.size : Int) ∧ (s.size : Int) ≤ 6) (hz : ¬ (s.data.toList.getD 0 0 = 48 ∧ 1 < s.size)) (hd : digTo s s.size) : readB s = valTo s s.size := by
  unfold readB
  rw [if_pos ⟨⟨by omega, by omega⟩, hz, hd⟩]

set_option maxHeartbeats 2000000 in
theorem l1Read_any (s : ByteArray) (w : World) :
    Calls Tryd.prog 19 #[.string s] w fun e w' => e = .returned (.int .i64 (readB s)) ∧ w = w' := by
  by_cases hb : inB (s.size : Int) 1 6 = true
  · have HB := hid hb
    have hpos : 0 < s.size := by have := inB_iff.1 hb; omega
    have hs6 : s.size ≤ 6 := by have := inB_iff.1 hb; omega
    clear hb
    by_cases h0 : s[0] = 48
    · have hbe : ((s[0].toNat : Int) == 48) = true := by rw [h0]; rfl
      by_cases h1 : 1 < s.size
      · have HR : Hid (readB s = -1) := hid (by unfold readB; rw [if_neg]; rintro ⟨_, h, _⟩; exact h ⟨by rw [get_at hpos]; exact h0, h1⟩)
        have h1i : (1 : Int) < (s.size : Int) := by omega
        clear h0
        go_enter Tryd.func19, Tryd.ntmps19
        go_wp2_with (go_at_call 27; refine (l1In_any _ _ _ _).mono ?_; rintro e w' ⟨rfl, rfl⟩; rw [HB.out])
        go_ret
        exact ⟨ret_int HR.out.symm, rfl⟩
      · have HZ : Hid (¬ (s.data.toList.getD 0 0 = 48 ∧ 1 < s.size)) := hid (fun hh => h1 hh.2)
        have h1i : ¬ (1 : Int) < (s.size : Int) := by omega
        clear h0
        go_enter Tryd.func19, Tryd.ntmps19
        go_wp2_with (go_at_call 27; refine (l1In_any _ _ _ _).mono ?_; rintro e w' ⟨rfl, rfl⟩; rw [HB.out])
        go_loop [3, 4] (fun n i => ∃ (k : Nat), k ≤ s.size ∧ i = .int .i64 (k : Int) ∧ n = .int .i64 (valTo s k) ∧ Hid (digTo s k)) (fun _ i => s.size - (intOf i).toNat)
        case atStart => exact ⟨0, Nat.zero_le _, rfl, rfl, hid (fun i hi => by omega)⟩
        case round =>
          obtain ⟨k, hk, rfl, rfl, HD⟩ := hrel
          by_cases hlt : k < s.size
          · by_cases hd1 : (s[k].toNat : Int) < 48
            · have HR : Hid (readB s = -1) := hid (readB_bad hlt (fun hh => by have := hh.1; omega))
              go_wp2_with fail
              go_ret
              exact ⟨ret_int HR.out.symm, rfl⟩
            · by_cases hd2 : 57 < (s[k].toNat : Int)
              · have HR : Hid (readB s = -1) := hid (readB_bad hlt (fun hh => by have := hh.2; omega))
                go_wp2_with fail
                go_ret
                exact ⟨ret_int HR.out.symm, rfl⟩
              · have hwr : IntKind.u8.wrap ((s[k].toNat : Int) - 48) = (s[k].toNat : Int) - 48 := by rw [IntKind.wrap_u8]; omega
                have HS := hid (valTo_succ hlt)
                have HD2 : Hid (digTo s (k + 1)) := hid (digTo_succ HD.out hlt (by omega) (by omega))
                obtain ⟨v0, v1⟩ := valTo_le HD.out hk (inB_iff.1 HB.out).2
                generalize hv : valTo s k = v at *
                clear hv
                go_wp2_with fail
                go_round
                case rel => exact ⟨k + 1, by omega, by go_num, by rw [HS.out], HD2⟩
                case measure => simp [intOf]; omega
          · obtain rfl : k = s.size := by omega
            have HR : Hid (readB s = valTo s s.size) := hid (readB_good (inB_iff.1 HB.out) HZ.out HD.out)
            go_wp2_with fail
            go_ret
            exact ⟨ret_int HR.out.symm, rfl⟩
    · have hbe : ((s[0].toNat : Int) == 48) = false := by
        simp only [beq_eq_false_iff_ne, ne_eq]
        intro h
        exact h0 (UInt8.toNat_inj.1 (by have : (48 : UInt8).toNat = 48 := rfl; omega))
      have HZ : Hid (¬ (s.data.toList.getD 0 0 = 48 ∧ 1 < s.size)) := hid (fun hh => h0 (by rw [← get_at hpos]; exact hh.1))
      clear h0
      go_enter Tryd.func19, Tryd.ntmps19
      go_wp2_with (go_at_call 27; refine (l1In_any _ _ _ _).mono ?_; rintro e w' ⟨rfl, rfl⟩; rw [HB.out])
      go_loop [3, 4] (fun n i => ∃ (k : Nat), k ≤ s.size ∧ i = .int .i64 (k : Int) ∧ n = .int .i64 (valTo s k) ∧ Hid (digTo s k)) (fun _ i => s.size - (intOf i).toNat)
      case atStart => exact ⟨0, Nat.zero_le _, rfl, rfl, hid (fun i hi => by omega)⟩
      case round =>
        obtain ⟨k, hk, rfl, rfl, HD⟩ := hrel
        by_cases hlt : k < s.size
        · by_cases hd1 : (s[k].toNat : Int) < 48
          · have HR : Hid (readB s = -1) := hid (readB_bad hlt (fun hh => by have := hh.1; omega))
            go_wp2_with fail
            go_ret
            exact ⟨ret_int HR.out.symm, rfl⟩
          · by_cases hd2 : 57 < (s[k].toNat : Int)
            · have HR : Hid (readB s = -1) := hid (readB_bad hlt (fun hh => by have := hh.2; omega))
              go_wp2_with fail
              go_ret
              exact ⟨ret_int HR.out.symm, rfl⟩
            · have hwr : IntKind.u8.wrap ((s[k].toNat : Int) - 48) = (s[k].toNat : Int) - 48 := by rw [IntKind.wrap_u8]; omega
              have HS := hid (valTo_succ hlt)
              have HD2 : Hid (digTo s (k + 1)) := hid (digTo_succ HD.out hlt (by omega) (by omega))
              obtain ⟨v0, v1⟩ := valTo_le HD.out hk (inB_iff.1 HB.out).2
              generalize hv : valTo s k = v at *
              clear hv
              go_wp2_with fail
              go_round
              case rel => exact ⟨k + 1, by omega, by go_num, by rw [HS.out], HD2⟩
              case measure => simp [intOf]; omega
        · obtain rfl : k = s.size := by omega
          have HR : Hid (readB s = valTo s s.size) := hid (readB_good (inB_iff.1 HB.out) HZ.out HD.out)
          go_wp2_with fail
          go_ret
          exact ⟨ret_int HR.out.symm, rfl⟩
  · have HB := hid (Bool.eq_false_iff.2 hb)
    have HR : Hid (readB s = -1) := hid (by unfold readB; rw [if_neg]; rintro ⟨h, _⟩; exact hb (inB_iff.2 ⟨by omega, by omega⟩))
    clear hb
    go_enter Tryd.func19, Tryd.ntmps19
    go_wp2_with (go_at_call 27; refine (l1In_any _ _ _ _).mono ?_; rintro e w' ⟨rfl, rfl⟩; rw [HB.out])
    go_ret
    exact ⟨ret_int HR.out.symm, rfl⟩
end Go.Proofs.YtakadjhbomggbabDoor

/- Whether cars are few and their favourites below a bound: the program's function, by its contract. -/
import Derived.Test.YtfkejkkplafciadHelp
import Derived.Test.YtfkejkkplafciadMath1
namespace Go.Proofs.Ytfkejkkplafciad
open Go.RowKit

set_option maxHeartbeats 400000 in
theorem aCars_any (a : Option Addr) (n cap : Nat) (xs : List Int) (bd : Int) (w : World) (h : Has w a n cap xs) :
    Calls Try.prog 101 #[.slice a n cap, .int .i64 bd] w fun e w' => e = .returned (.bool (carsB xs bd)) ∧ w = w' := by
  obtain ⟨h0, h1, h2, h3, h4⟩ := h
  by_cases h8 : n ≤ 8
  · go_enter Try.func101, Try.ntmps101
    go_wp2_with fail
    go_loop [12] (fun i => ∃ k : Nat, k ≤ n ∧ i = .int .i64 k ∧ allB (xs.take k) 0 (bd - 1) = true) (fun i => n - (intOf i).toNat)
    case atStart => exact ⟨0, Nat.zero_le _, rfl, rfl⟩
    case round =>
      obtain ⟨k, hk, rfl, hrel⟩ := hrel
      have HR := hid hrel
      clear hrel
      by_cases hlt : k < n
      · obtain ⟨b, off, rfl, hb, hc⟩ := h4 (by omega)
        have hck := hc k hlt
        clear hc h4
        by_cases h5 : nth xs k < 0
        · have HN := hid (allB_no (xs := xs) (lo := 0) (hi := bd - 1) (k := k) (by omega) (by rw [inB_not]; omega))
          go_wp2_with fail
          go_ret
          exact ⟨ret_bool (by simp [carsB, HN.out]), rfl⟩
        · by_cases h6 : bd ≤ nth xs k
          · have HN := hid (allB_no (xs := xs) (lo := 0) (hi := bd - 1) (k := k) (by omega) (by rw [inB_not]; omega))
            go_wp2_with fail
            go_ret
            exact ⟨ret_bool (by simp [carsB, HN.out]), rfl⟩
          · have HS := hid (allB_succ (xs := xs) (k := k) (by omega) HR.out (by rw [inB_iff]; omega))
            go_wp2_with fail
            go_round
            case rel => exact ⟨k + 1, by omega, by go_num, HS.out⟩
            case measure => simp [intOf]; omega
      · go_wp2_with fail
        go_ret
        exact ⟨ret_bool (by have := HR.out; rw [List.take_of_length_le (by omega)] at this; simp [carsB, this, h0, h8]), rfl⟩
  · go_enter Try.func101, Try.ntmps101
    go_wp2_with fail
    go_ret
    exact ⟨ret_bool (by simp [carsB, h0, h8]), rfl⟩

end Go.Proofs.Ytfkejkkplafciad

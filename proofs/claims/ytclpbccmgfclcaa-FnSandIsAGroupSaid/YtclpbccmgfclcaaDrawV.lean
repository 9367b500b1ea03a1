/- Draws of sand that is mostly recurrent, and whether a list parks. -/
import Derived.Test.YtclpbccmgfclcaaDrawU
import Derived.Test.YtclpbccmgfclcaaSpecSe
import Derived.Test.YtclpbccmgfclcaaImplC
namespace Go.Proofs.Ytclpbccmgfclcaa
open Go.RowKit

theorem park_asked {xs : List Int} (h : isPark xs = true) : asked xs = true := by
  obtain ⟨h1, h2, _⟩ := isPark_iff.1 h
  simp only [asked, Bool.and_eq_true, decide_eq_true_eq, allB_iff]
  exact ⟨h1, fun x hx => by have := h2 x hx; omega⟩
set_option maxHeartbeats 400000 in
theorem wParkS_any (a : Option Addr) (n cap : Nat) (xs : List Int) (w : World) (h : Has w a n cap xs) :
    Calls Try.prog 26 #[.slice a n cap] w (PostBool w (isPark xs)) := by
  by_cases hp : isPark xs = true
  · have HI : Hid (isParking xs = (true, true)) := hid (by simp [isParking, park_asked hp, hp])
    have HP := hid hp
    clear hp
    go_enter Try.func26, Try.ntmps26
    go_wp2_with fail
    refine (isParking_any _ _ _ _ _ h).mono ?_
    rw [HI.out]
    rintro e w1 ⟨rfl, hb⟩
    go_wp2_with fail
    go_ret
    exact postBool HP.out.symm hb
  · have HP := hid (Bool.eq_false_iff.2 hp)
    obtain ⟨ok, hok⟩ : ∃ ok, isParking xs = (false, ok) := by
      by_cases ha : asked xs = true
      · exact ⟨true, by simp [isParking, ha, Bool.eq_false_iff.2 hp]⟩
      · exact ⟨false, by simp [isParking, ha]⟩
    have HI := hid hok
    clear hok hp
    go_enter Try.func26, Try.ntmps26
    go_wp2_with fail
    refine (isParking_any _ _ _ _ _ h).mono ?_
    rw [HI.out]
    rintro e w1 ⟨rfl, hb⟩
    cases ok with
    | true =>
      go_wp2_with fail
      go_ret
      exact postBool HP.out.symm hb
    | false =>
      go_wp2_with fail
      go_ret
      exact postBool HP.out.symm hb


set_option maxRecDepth 100000 in
set_option maxHeartbeats 4000000 in
theorem again_cur (g t : Nat) (w : World) (h : Cur w g t) (ht : t ≤ 500) :
    Calls Try.prog 51 #[.pointer (some ⟨g, 0, none⟩)] w fun e w' => ∃ a n cap xs t', e = .returned (.slice a n cap) ∧ Own w' w.heap.size a n cap xs ∧ n ≤ 10 ∧ AtG w w' g t' ∧ t' ≤ t + 202 := by
  have A0 := AtG.new h
  have hgl : g < w.heap.size := h.lt
  go_enter Try.func51, Try.ntmps51
  go_wp2_with fail
  refine (park_cur g t 8 _ A0.cur (by omega) (by omega) (by omega)).mono ?_
  rintro e w1 ⟨a1, n1, cap1, xs1, t1, rfl, o1, hn1, hw1, A1, ht1⟩
  by_cases hp : isPark xs1 = true
  · have HP := hid hp
    obtain ⟨p1, p2, -⟩ := isPark_iff.1 hp
    have hl1 := o1.len
    have h8 : n1 ≤ 8 := by omega
    have hbd : ∀ i, i < n1 → 0 ≤ nth xs1 i ∧ nth xs1 i ≤ 5000 := fun i hi => by
      have := p2 _ (nth_mem (xs := xs1) (i := i) (by omega))
      omega
    have HBD := hid hbd
    clear hp p1 p2 hl1 hbd
    go_wp2_with (go_at_call 62; refine (paParking_any _ _ _ _ _ o1.has).mono ?_; rintro e w2 ⟨rfl, hb2⟩; rw [HP.out])
    have A2 := A1.later hb2 A1.size
    have o2 := o1.below hb2 (Nat.le_refl _)
    clear A1 o1
    refine (one_cur g t1 6 _ A2.cur (by omega) (by omega)).mono ?_
    rintro e w3 ⟨b3, rfl, ⟨t3, z1, z2, hc3⟩, hg3⟩
    have A3 := A2.pick hc3 hg3
    have o3 := o2.kept hg3 (.inl hgl)
    clear hc3 hg3 A2 o2 hb2
    cases b3 with
    | true =>
      go_wp2_with fail
      refine (grains_cur g t3 _ A3.cur (by omega)).mono ?_
      rintro e w4 ⟨a4, n4, cap4, xs4, t4, rfl, o4, hn4, hw4, A4, ht4⟩
      have A4' := A3.trans A4
      go_wp2_with fail
      go_ret
      exact ⟨_, _, _, _, t4, rfl, o4.mono A3.size, hn4, A4', by omega⟩
    | false =>
      go_wp2_with (go_at_call 56; refine (reTurned_any _ _ _ _ _ o3.has h8 HBD.out).mono ?_; rintro e w' ⟨a4, c4, rfl, o4, hb4⟩)
      have A4 := A3.later hb4 A3.size
      go_ret
      exact ⟨_, _, _, _, t3, rfl, o4.mono A3.size, by omega, A4, by omega⟩
  · have HP := hid (Bool.eq_false_iff.2 hp)
    clear hp
    go_wp2_with (go_at_call 62; refine (paParking_any _ _ _ _ _ o1.has).mono ?_; rintro e w2 ⟨rfl, hb2⟩; rw [HP.out])
    have A2 := A1.later hb2 A1.size
    refine (grains_cur g t1 _ A2.cur (by omega)).mono ?_
    rintro e w4 ⟨a4, n4, cap4, xs4, t4, rfl, o4, hn4, hw4, A4, ht4⟩
    have A4' := A2.trans A4
    go_wp2_with fail
    go_ret
    exact ⟨_, _, _, _, t4, rfl, o4.mono A2.size, hn4, A4', by omega⟩

set_option maxHeartbeats 800000 in
theorem drawRec_any (a : Option Addr) (n cap : Nat) (w : World) (h : HasB w a n w.heap.size) :
    Calls Try.prog 16 #[.slice a n cap] w (DrewOf w) := by
  have C0 := cur_new (cap := cap) h
  go_enter Try.func16, Try.ntmps16
  go_wp2_with fail
  refine (again_cur _ 0 _ C0 (by omega)).mono ?_
  rintro e w1 ⟨a1, n1, cap1, xs1, t1, rfl, o1, hn1, A1, ht1⟩
  have o1' := o1.mono (B' := w.heap.size) (by simp)
  have hb := (alloc_below w (.cells #[.slice a n cap, .int .i64 0, .int .u64 0] 47)).trans A1.below
  clear A1
  go_wp2_with fail
  go_ret
  exact ⟨_, _, _, _, rfl, o1', hn1, hb⟩

set_option maxHeartbeats 800000 in
theorem drawSandP_any (a : Option Addr) (n cap : Nat) (w : World) (h : HasB w a n w.heap.size) :
    Calls Try.prog 23 #[.slice a n cap] w (DrewOf w) := by
  have C0 := cur_new (cap := cap) h
  go_enter Try.func23, Try.ntmps23
  go_wp2_with fail
  refine (park_cur _ 0 8 _ C0 (by omega) (by omega) (by omega)).mono ?_
  rintro e w1 ⟨a1, n1, cap1, xs1, t1, rfl, o1, hn1, hw1, A1, ht1⟩
  have o1' := o1.mono (B' := w.heap.size) (by simp)
  have hb := (alloc_below w (.cells #[.slice a n cap, .int .i64 0, .int .u64 0] 47)).trans A1.below
  clear A1
  go_wp2_with fail
  go_ret
  exact ⟨_, _, _, _, rfl, o1', hn1, hb⟩
end Go.Proofs.Ytclpbccmgfclcaa

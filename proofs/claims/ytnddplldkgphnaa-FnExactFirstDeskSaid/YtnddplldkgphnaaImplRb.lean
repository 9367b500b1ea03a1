/- Rings: the search. -/
import Derived.Test.YtnddplldkgphnaaImplRa
namespace Go.Proofs.Ytnddplldkgphnaa
open Go.RowKit

/-- A table's cells as a ring has them: free ones behind. -/
def pad (cs : List Int) : List Int := cs ++ List.replicate (12 - cs.length) (-1)
theorem length_pad {cs : List Int} (h : cs.length ≤ 12) : (pad cs).length = 12 := by simp [pad]; omega
theorem nth_pad {cs : List Int} {i : Nat} (h : i < cs.length) : nth (pad cs) i = nth cs i := nth_append_left h
theorem pad_set {cs : List Int} {i : Nat} {x : Int} (h : i < cs.length) : (pad cs).set i x = pad (cs.set i x) := by
  unfold pad
  rw [List.set_append_left _ _ h, List.length_set]
/-- A ring's numbers. -/
def ringL (cs : List Int) : List Int := (cs.length : Int) :: pad cs
/-- As many cells as a ring may have. -/
structure Rg (cs : List Int) : Prop where
  lo : 1 ≤ cs.length
  hi : cs.length ≤ 12
theorem Rg.of {cs : List Int} (h : Rg cs) : RingOf cs.length (pad cs) := ⟨length_pad h.hi, h.lo, h.hi⟩
theorem Rg.all {cs : List Int} (h : Rg cs) : (ringL cs).length = 13 := h.of.all
theorem ring_cell {w : World} {g : Nat} {cs : List Int} (h : RingAt w g (ringL cs)) {i : Nat} (hi : i < cs.length) (h12 : cs.length ≤ 12) : w.cell? ⟨g, 1 + i, none⟩ = some (.int .i64 (nth cs i)) := by
  rw [Nat.add_comm, h.cell (i := i + 1) (by omega)]
  show some (Value.int .i64 (nth (pad cs) i)) = _
  rw [nth_pad hi]

/-- Where a search stops. -/
def stopAt (cs : List Int) (key : Int) (c : Nat) : Bool := decide (nth cs c = key) || decide (nth cs c = -1)
theorem srch_def (cs : List Int) (key : Int) : srch cs key = goR (stopAt cs key) cs.length cs.length (ownN cs.length key) := rfl
theorem stopAt_no {cs : List Int} {key : Int} {c : Nat} (h1 : nth cs c ≠ key) (h2 : nth cs c ≠ -1) : stopAt cs key c = false := by simp [stopAt, h1, h2]
theorem stopAt_key {cs : List Int} {key : Int} {c : Nat} (h1 : nth cs c = key) : stopAt cs key c = true := by simp [stopAt, h1]
theorem stopAt_free {cs : List Int} {key : Int} {c : Nat} (h1 : nth cs c = -1) : stopAt cs key c = true := by simp [stopAt, h1]
/-- On the way to where one stops. -/
structure Way (stop : Nat → Bool) (n q c r : Nat) : Prop where
  lt : c < n
  at_ : ∃ f, wayN n c q ≤ f ∧ goR stop n f c = r
theorem Way.start {stop : Nat → Bool} {n q c : Nat} (hc : c < n) : Way stop n q c (goR stop n n c) := ⟨hc, n, Nat.le_of_lt (way_lt (by omega)), rfl⟩
theorem Way.stop {stop : Nat → Bool} {n q c r : Nat} (h : Way stop n q c r) (hs : stop c = true) : c = r := by
  obtain ⟨f, _, h2⟩ := h.at_
  rw [← h2, goR_stop hs]
theorem Way.next {stop : Nat → Bool} {n q c r : Nat} (h : Way stop n q c r) (hq : q < n) (hsq : stop q = true) (hs : stop c = false) : Way stop n q ((c + 1) % n) r ∧ wayN n ((c + 1) % n) q < wayN n c q := by
  have hn : 0 < n := by omega
  have hne : c ≠ q := fun e => by rw [e, hsq] at hs; cases hs
  have hst := way_step h.lt hq hne
  obtain ⟨f, h1, h2⟩ := h.at_
  refine ⟨⟨Nat.mod_lt _ hn, ?_⟩, by omega⟩
  cases f with
  | zero => omega
  | succ f => exact ⟨f, by omega, by rw [← h2, goR_go hs]⟩

set_option maxHeartbeats 2000000 in
theorem search_any (cs : List Int) (key : Int) (q : Nat) (w : World) (hr : Rg cs) (h0 : 0 ≤ key) (hq : freeAt cs q) :
    Calls Try.prog 47 #[.agg (ivals (ringL cs)), .int .i64 key] w fun e w' => e = .returned (.int .i64 (srch cs key : Nat)) ∧ Below w.heap.size w w' := by
  have R := ringAt_new w hr.all
  have hb := (Below.refl w.heap.size w).alloc (Nat.le_refl _) (.cells (ivals (ringL cs)) 52)
  have hlo := hr.lo
  have h12 := hr.hi
  have HRS : Hid (RS w w.heap.size (ringL cs) (w.alloc (.cells (ivals (ringL cs)) 52))) := hid ⟨R, hb⟩
  have hv := ring_val (m := (cs.length : Int)) hr.of.len
  have hq1 := hq.1
  have HQ := hid (stopAt_free (key := key) hq.2)
  have HS := hid (srch_def cs key)
  obtain ⟨c0, c1, c2, c3, c4, c5, c6, c7, c8, c9, c10, c11, c12⟩ := ring_out R
  clear R hb
  go_enter Try.func47, Try.ntmps47
  go_wp2_with (go_at_call 50; refine (ownCell_any cs.length (pad cs) key _ hr.of h0).mono ?_; rintro e w' ⟨rfl, st⟩)
  have hrs := HRS.out.step st
  clear c0 c1 c2 c3 c4 c5 c6 c7 c8 c9 c10 c11 c12 st
  go_loopw [5] (fun i wr => ∃ c : Nat, i = .int .i64 c ∧ Hid (Way (stopAt cs key) cs.length q c (srch cs key)) ∧ RS w w.heap.size (ringL cs) wr) (fun i _ => wayN cs.length (intOf i).toNat q)
  case atStart => exact ⟨_, rfl, hid (by rw [HS.out]; exact Way.start (own_lt (by omega))), hrs⟩
  case round =>
    clear hrs
    obtain ⟨c, rfl, HW, hrs⟩ := hrel
    have hc := HW.out.lt
    have hc12 : (c : Int) < 12 := by omega
    have hc0 : (0 : Int) ≤ (c : Int) := by omega
    have hcc := ring_cell hrs.ring hc h12
    by_cases h1 : nth cs c = key
    · have HE := hid (HW.out.stop (stopAt_key h1))
      have hb1 : (nth cs c != key) = false := by simp [h1]
      clear h1
      go_wp2_with fail
      go_ret
      exact ⟨ret_int (by rw [← HE.out]), hrs.st⟩
    · have hb1 : (nth cs c != key) = true := by simp [h1]
      have H1 := hid h1
      clear h1
      by_cases h2 : nth cs c = -1
      · have HE := hid (HW.out.stop (stopAt_free h2))
        have hb2 : (nth cs c != -1) = false := by simp [h2]
        clear h2
        go_wp2_with fail
        go_ret
        exact ⟨ret_int (by rw [← HE.out]), hrs.st⟩
      · have hb2 : (nth cs c != -1) = true := by simp [h2]
        have HE := hid (HW.out.next hq1 HQ.out (stopAt_no H1.out h2))
        clear h2
        obtain ⟨c0, c1, c2, c3, c4, c5, c6, c7, c8, c9, c10, c11, c12⟩ := ring_out hrs.ring
        go_wp2_with (go_at_call 51; refine (behind_any cs.length (pad cs) c _ hr.of hc).mono ?_; rintro e w' ⟨rfl, st⟩)
        go_roundw
        case rel => exact ⟨_, rfl, hid HE.out.1, hrs.step st⟩
        case measure => simp only [intOf, Int.toNat_natCast]; exact HE.out.2
end Go.Proofs.Ytnddplldkgphnaa

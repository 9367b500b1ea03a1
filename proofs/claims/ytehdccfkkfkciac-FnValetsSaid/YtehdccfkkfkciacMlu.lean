/- Chapter 9: the most lucky cars: both functions, by their contracts. -/
import Derived.Test.YtehdccfkkfkciacMathVv
import Derived.Test.YtehdccfkkfkciacSpecC
import Derived.Test.YtehdccfkkfkciacLawKit
import Derived.Test.YtehdccfkkfkciacImplC
import Derived.Test.YtehdccfkkfkciacPut
import Derived.Test.YtehdccfkkfkciacSeq
namespace Go.Proofs.Ytehdccfkkfkciac
open Go.RowKit

def putAllL (xs : List Int) : List Int := xs.foldl putL []
def luckyMost (xs : List Int) (p : Int) : Int × Bool := if good xs p && allPark p xs then (((putAllL xs).length : Int), true) else (0, false)
theorem lucky_yes {xs : List Int} {p : Int} (h : (good xs p && allPark p xs) = true) : luckyMost xs p = (((putAllL xs).length : Int), true) := by simp only [luckyMost, if_pos h]
theorem lucky_no {xs : List Int} {p : Int} (h : ¬ (good xs p && allPark p xs) = true) : luckyMost xs p = (0, false) := by simp only [luckyMost, if_neg h]
theorem putAll_succ {xs : List Int} {k : Nat} (h : k < xs.length) : putAllL (xs.take (k + 1)) = putL (putAllL (xs.take k)) (nth xs k) := by
  rw [take_succ_nth h]
  simp [putAllL]
theorem mem_putL {v x : Int} : ∀ {l : List Int}, v ∈ putL l x ↔ v = x ∨ v ∈ l
  | [] => by simp [putL]
  | y :: l => by
    simp only [putL]
    split
    · simp only [List.mem_cons, mem_putL (l := l)]
      constructor
      · rintro (h | h | h) <;> simp [h]
      · rintro (h | h | h) <;> simp [h]
    · split
      · rename_i h
        subst h
        simp
      · simp
theorem putL_sorted {x : Int} : ∀ {l : List Int}, l.Pairwise (· < ·) → (putL l x).Pairwise (· < ·)
  | [], _ => by simp [putL]
  | y :: l, h => by
    obtain ⟨h1, h2⟩ := List.pairwise_cons.1 h
    simp only [putL]
    split
    · rename_i e
      refine List.pairwise_cons.2 ⟨fun v hv => ?_, putL_sorted h2⟩
      rcases mem_putL.1 hv with rfl | hv
      · exact e
      · exact h1 v hv
    · split
      · exact h
      · rename_i e1 e2
        refine List.pairwise_cons.2 ⟨fun v hv => ?_, h⟩
        rcases List.mem_cons.1 hv with rfl | hv
        · omega
        · have := h1 v hv; omega
theorem putAll_facts : ∀ (xs out : List Int), out.Pairwise (· < ·) → (xs.foldl putL out).Pairwise (· < ·) ∧ ∀ v, v ∈ xs.foldl putL out ↔ v ∈ xs ∨ v ∈ out
  | [], out, h => ⟨h, by simp⟩
  | x :: xs, out, h => by
    obtain ⟨i1, i2⟩ := putAll_facts xs (putL out x) (putL_sorted h)
    refine ⟨i1, fun v => ?_⟩
    rw [List.foldl_cons, i2 v, mem_putL, List.mem_cons]
    constructor
    · rintro (h | h | h) <;> simp [h]
    · rintro ((h | h) | h) <;> simp [h]
theorem putAll_len (xs : List Int) : ∀ k, k ≤ xs.length → (putAllL (xs.take k)).length ≤ k
  | 0, _ => by simp [putAllL]
  | k + 1, h => by
    rw [putAll_succ (by omega)]
    have := length_putL (putAllL (xs.take k)) (nth xs k)
    have := putAll_len xs k (by omega)
    omega
theorem compact_facts {zs : List Int} (hs : zs.Pairwise (· ≤ ·)) : ∀ m, m ≤ zs.length → (Lib.compactUpTo zs.toArray m).Pairwise (· < ·) ∧ ∀ v, v ∈ Lib.compactUpTo zs.toArray m ↔ ∃ j, j < m ∧ v = nth zs j
  | 0, _ => by simp [Lib.compactUpTo]
  | m + 1, hm => by
    obtain ⟨i1, i2⟩ := compact_facts hs m (by omega)
    have hd : ∀ j : Nat, j < zs.length → zs.toArray[j]! = nth zs j := fun j hj => by simp [nth, hj, getElem!_pos]
    have hmono : ∀ i j, i < j → j < zs.length → nth zs i ≤ nth zs j := fun i j hij hj => by
      have := List.pairwise_iff_getElem.1 hs i j (by omega) hj hij
      simpa [nth, hj, show i < zs.length by omega] using this
    rw [Lib.compactUpTo_succ, hd m (by omega)]
    by_cases hk : Lib.keeps zs.toArray m = true
    · rw [if_pos hk]
      refine ⟨List.pairwise_append.2 ⟨i1, by simp, fun u hu v hv => ?_⟩, fun v => ?_⟩
      · obtain rfl : v = nth zs m := by simpa using hv
        obtain ⟨j, hj, rfl⟩ := (i2 u).1 hu
        have hk2 : nth zs m ≠ nth zs (m - 1) := by
          have h' := hk
          simp only [Lib.keeps, decide_eq_true_eq] at h'
          rcases h' with h' | h'
          · omega
          · rw [hd m (by omega), hd (m - 1) (by omega)] at h'; exact h'
        have h1 : nth zs (m - 1) ≤ nth zs m := hmono _ _ (by omega) (by omega)
        have h2 : nth zs j ≤ nth zs (m - 1) := by
          rcases Nat.lt_or_ge j (m - 1) with h | h
          · exact hmono _ _ h (by omega)
          · rw [show j = m - 1 by omega]; exact Int.le_refl _
        omega
      · rw [List.mem_append, i2 v]
        constructor
        · rintro (⟨j, hj, rfl⟩ | h)
          · exact ⟨j, by omega, rfl⟩
          · exact ⟨m, by omega, by simpa using h⟩
        · rintro ⟨j, hj, rfl⟩
          rcases Nat.lt_or_ge j m with h | h
          · exact .inl ⟨j, h, rfl⟩
          · rw [show j = m by omega]; exact .inr (by simp)
    · rw [if_neg hk, List.append_nil]
      refine ⟨i1, fun v => ?_⟩
      rw [i2 v]
      have hk2 : m ≠ 0 ∧ nth zs m = nth zs (m - 1) := by
        have h' := hk
        simp only [Lib.keeps, decide_eq_true_eq, not_or, Decidable.not_not] at h'
        obtain ⟨h1, h2⟩ := h'
        rw [hd m (by omega), hd (m - 1) (by omega)] at h2
        exact ⟨h1, h2⟩
      constructor
      · rintro ⟨j, hj, rfl⟩
        exact ⟨j, by omega, rfl⟩
      · rintro ⟨j, hj, rfl⟩
        rcases Nat.lt_or_ge j m with h | h
        · exact ⟨j, h, rfl⟩
        · exact ⟨m - 1, by omega, by rw [show j = m by omega]; exact hk2.2⟩
theorem compact_sorted (xs : List Int) : (Lib.compact (insSort xs)).length = (putAllL xs).length := by
  obtain ⟨a1, a2⟩ := compact_facts (insSort_sorted xs) (insSort xs).length (Nat.le_refl _)
  obtain ⟨b1, b2⟩ := putAll_facts xs [] List.Pairwise.nil
  refine List.Perm.length_eq ((List.perm_ext_iff_of_nodup (a1.imp (fun h => by omega)) (b1.imp (fun h => by omega))).2 fun v => ?_)
  rw [b2 v]
  refine (a2 v).trans ?_
  rw [show v ∈ xs ∨ v ∈ ([] : List Int) ↔ v ∈ xs by simp, ← (insSort_perm xs).mem_iff]
  constructor
  · rintro ⟨j, hj, rfl⟩
    exact nth_mem hj
  · intro h
    obtain ⟨j, hj, rfl⟩ := List.mem_iff_getElem.1 h
    exact ⟨j, hj, by simp [nth, hj]⟩

set_option maxHeartbeats 800000 in
theorem specLuckyM_any (a : Option Addr) (n cap : Nat) (xs : List Int) (p : Int) (w : World) (h : Has w a n cap xs) :
    Calls Try.prog 14 #[.slice a n cap, .int .i64 p] w (PostInt w (luckyMost xs p)) := by
  by_cases hg : good xs p = true
  · obtain ⟨g1, g2, g3, g4⟩ := good_nth hg h.len
    by_cases ha : allPark p xs = true
    · have hlx := h.len
      have HR : Hid (luckyMost xs p = (((putAllL (xs.take n)).length : Int), true)) := hid (by rw [lucky_yes (by rw [hg, ha]; rfl), List.take_of_length_le (by omega)])
      have HL := hid (fun k (hk : k ≤ n) => putAll_len xs k (by omega))
      have HS := hid (fun k (hk : k < n) => putAll_succ (xs := xs) (k := k) (by omega))
      have HG := hid hg
      have HA := hid ha
      clear hg ha
      go_enter Try.func14, Try.ntmps14
      go_wp2_with (first | (go_at_call 34; refine (paGood_any _ _ _ _ _ _ h).mono ?_; rintro e w' ⟨rfl, rfl⟩; rw [HG.out]) | (go_at_call 35; refine (paAll_any _ _ _ _ _ _ h g1 g3 g4).mono ?_; rintro e w1 ⟨rfl, hb1⟩; rw [HA.out]))
      go_loopw [6, 21] (fun s i wr => ∃ (k m : Nat) (a2 : Option Addr) (cap2 : Nat), k ≤ n ∧ i = .int .i64 (k : Int) ∧ s = .slice a2 m cap2 ∧ Own wr w.heap.size a2 m cap2 (putAllL (xs.take k)) ∧ Below w.heap.size w wr) (fun _ i _ => n - (intOf i).toNat)
      case atStart => exact ⟨0, 0, none, 0, Nat.zero_le _, rfl, rfl, Own.nil _ _, hb1⟩
      case round =>
        obtain ⟨k, m, a2, cap2, hk, rfl, rfl, hown, hb⟩ := hrel
        have hlm := hown.len
        have hL := HL.out k hk
        by_cases hlt : k < n
        · obtain ⟨b, off, rfl, hbb, hc⟩ := h.2.2.2.2 (by omega)
          have hck : wr.cell? ⟨b, off + k, none⟩ = some (.int .i64 (nth xs k)) := by rw [hb.cell (p := ⟨b, off + k, none⟩) hbb, hc k hlt]
          have HS' := hid (HS.out k hlt)
          clear hc
          go_wp2_with (go_at_call 39; refine (l1Put_any w.heap.size _ _ _ _ (nth xs k) _ hown (by omega) hb.size).mono ?_; rintro e w3 ⟨a3, m3, cap3, rfl, hown3, hb3⟩)
          go_roundw
          case rel => exact ⟨k + 1, m3, a3, cap3, by omega, by go_num, rfl, by rw [HS'.out]; exact hown3, hb.trans (hb3.mono hb.size)⟩
          case measure => simp [intOf]; omega
        · obtain rfl : k = n := by omega
          go_wp2_with fail
          go_ret2
          exact postInt (by rw [HR.out, hlm]) hb
    · have HR := hid (lucky_no (xs := xs) (p := p) (by simp [ha]))
      have HG := hid hg
      have HA := hid ha
      clear hg ha
      go_enter Try.func14, Try.ntmps14
      go_wp2_with (first | (go_at_call 34; refine (paGood_any _ _ _ _ _ _ h).mono ?_; rintro e w' ⟨rfl, rfl⟩; rw [HG.out]) | (go_at_call 35; refine (paAll_any _ _ _ _ _ _ h g1 g3 g4).mono ?_; rintro e w1 ⟨rfl, hb1⟩; rw [Bool.eq_false_iff.2 HA.out]))
      go_ret2
      exact postInt HR.out hb1
  · have HR := hid (lucky_no (xs := xs) (p := p) (by simp [hg]))
    have HG := hid hg
    clear hg
    go_enter Try.func14, Try.ntmps14
    go_wp2_with (go_at_call 34; refine (paGood_any _ _ _ _ _ _ h).mono ?_; rintro e w' ⟨rfl, rfl⟩; rw [Bool.eq_false_iff.2 HG.out])
    go_ret2
    exact postInt HR.out (Below.refl _ _)

set_option maxHeartbeats 800000 in
theorem implLuckyM_any (a : Option Addr) (n cap : Nat) (xs : List Int) (p : Int) (w : World) (h : Has w a n cap xs) :
    Calls Try.prog 15 #[.slice a n cap, .int .i64 p] w (PostInt w (luckyMost xs p)) := by
  by_cases hg : (good xs p && allPark p xs) = true
  · have HR : Hid (luckyMost xs p = (((Lib.compact (insSort xs)).length : Int), true)) := hid (by rw [lucky_yes hg, compact_sorted])
    have HD := hid (drive_yes hg)
    clear hg
    go_enter Try.func15, Try.ntmps15
    go_wp2_with fail
    refine (driveCars_any _ _ _ _ _ _ h).mono ?_
    rw [HD.out]
    rintro e w1 ⟨a1, m, cap1, rfl, hown, hb⟩
    have h1 := h.below hb (Nat.le_refl _)
    have hBs : (w1.alloc (.cells #[.slice a n cap] 22)).cell? ⟨w1.heap.size, 0, none⟩ = some (.slice a n cap) := by rw [World.cell?_alloc_at _ _ _ _ rfl]; rfl
    have hb2 : Below w1.heap.size w1 (w1.alloc (.cells #[.slice a n cap] 22)) := (Below.refl _ _).alloc (Nat.le_refl _) _
    go_wp2_with (first | (go_at_call 41; refine (values_any a n cap w1).mono ?_; rintro e w' ⟨rfl, rfl⟩))
    refine (sorted_any _ _ _ _ _ _ (h1.below hb2 (Nat.le_refl _)) hBs (by simp)).mono ?_
    rintro e w3 ⟨a3, cap3, rfl, hown3, hb3⟩
    have hb13 := hb2.trans (hb3.mono hb2.size)
    go_wp2_with fail
    refine (compact_any _ _ _ _ _ _ hown3 hb3.size).mono ?_
    rintro e w4 ⟨a4, rfl, hb4⟩
    have hb14 := hb13.trans (hb4.mono hb2.size)
    go_wp2_with fail
    go_ret2
    exact postInt HR.out (hb.trans (hb14.mono hb.size))
  · have HR := hid (lucky_no hg)
    have HD := hid (drive_no hg)
    clear hg
    go_enter Try.func15, Try.ntmps15
    go_wp2_with fail
    refine (driveCars_any _ _ _ _ _ _ h).mono ?_
    rw [HD.out]
    rintro e w1 ⟨a1, m, cap1, rfl, hown, hb⟩
    go_wp2_with fail
    go_ret2
    exact postInt HR.out hb
end Go.Proofs.Ytehdccfkkfkciac

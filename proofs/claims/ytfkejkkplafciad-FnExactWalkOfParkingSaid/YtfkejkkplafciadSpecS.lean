/- The model's sort by insertion. -/
import Derived.Test.YtfkejkkplafciadSpecO
import Derived.Test.YtfkejkkplafciadMathS
namespace Go.Proofs.Ytfkejkkplafciad
open Go.RowKit

theorem Has.take {w : World} {a : Option Addr} {n cap : Nat} {xs : List Int} (h : Has w a n cap xs) {k : Nat} (hk : k ≤ n) : Has w a k cap (xs.take k) := by
  obtain ⟨h0, h1, h2, h3, h4⟩ := h
  refine ⟨by simp; omega, by omega, h2, by omega, fun hx => ?_⟩
  obtain ⟨b, off, ha, hlt, hc⟩ := h4 (by omega)
  exact ⟨b, off, ha, hlt, fun i hi => by rw [hc i (by omega), nth_take hi]⟩

theorem nth_drop {xs : List Int} {i k : Nat} : nth (xs.drop k) i = nth xs (k + i) := by simp [nth]

theorem Has.drop {w : World} {b off : Nat} {n cap : Nat} {xs : List Int} (h : Has w (some ⟨b, off, none⟩) n cap xs) {k : Nat} (hk : k ≤ n) : Has w (some ⟨b, off + k, none⟩) (n - k) (cap - k) (xs.drop k) := by
  obtain ⟨h0, h1, h2, h3, h4⟩ := h
  refine ⟨by simp; omega, by omega, by omega, by omega, fun hx => ?_⟩
  obtain ⟨b', off', ha, hlt, hc⟩ := h4 (by omega)
  cases ha
  exact ⟨b, off + k, rfl, hlt, fun i hi => by rw [Nat.add_assoc, hc (k + i) (by omega), nth_drop]⟩

theorem Has.belowB {w w' : World} {a : Option Addr} {n cap : Nat} {xs : List Int} {B : Nat} (h : Has w a n cap xs) (hb : Below B w w') (hl : ∀ p, a = some p → p.block < B) : Has w' a n cap xs := by
  obtain ⟨h0, h1, h2, h3, h4⟩ := h
  refine ⟨h0, h1, h2, h3, fun hx => ?_⟩
  obtain ⟨b, off, ha, hlt, hc⟩ := h4 hx
  have := hl _ ha
  exact ⟨b, off, ha, Nat.lt_of_lt_of_le hlt hb.size, fun i hi => by rw [hb.cell (p := ⟨b, off + i, none⟩) this]; exact hc i hi⟩

theorem slice_len {a : Option Addr} {n m cap : Nat} (h : n = m) : Value.slice a n cap = Value.slice a m cap := by rw [h]
theorem Own.relen {w : World} {B : Nat} {a : Option Addr} {n m cap : Nat} {xs ys : List Int} (h : Own w B a n cap xs) (hn : n = m) (he : ys = xs) : Own w B a m cap ys := by subst hn; subst he; exact h

theorem Has.nilAt {w : World} (a : Option Addr) {cap : Nat} (hc : cap ≤ maxLen) : Has w a 0 cap [] := ⟨rfl, by omega, hc, by omega, by omega⟩

theorem Has.empty {w : World} (a : Option Addr) {n cap : Nat} (hn : n ≤ 0) (hc : cap ≤ 0) : Has w a n cap [] := ⟨by simp; omega, by omega, by unfold maxLen; omega, by omega, by omega⟩

theorem Own.noneOf {w : World} {B n cap : Nat} {xs : List Int} (h : Own w B none n cap xs) : n = 0 ∧ cap = 0 ∧ xs = [] := by
  rcases h.1.2 with ⟨hv, hn⟩ | ⟨g, cap', cur, hv, _⟩
  · simp at hv
    exact ⟨hn, hv.2, List.eq_nil_of_length_eq_zero (by rw [h.len]; exact hn)⟩
  · simp at hv

theorem Own.someOf {w : World} {B n cap : Nat} {p : Addr} {xs : List Int} (h : Own w B (some p) n cap xs) : ∃ g, p = ⟨g, 0, none⟩ ∧ B ≤ g ∧ g < w.heap.size ∧ (∀ i, i < n → w.cell? ⟨g, i, none⟩ = some (.int .i64 (nth xs i))) ∧ (∀ i, w.frozen? ⟨g, i, none⟩ = false) ∧ n ≤ cap := by
  have h0 := h
  rcases h.1.2 with ⟨hv, hn⟩ | ⟨g, cap', cur, hv, hg, hh, hnc, hcm, hcs, htake⟩
  · simp at hv
  · simp at hv
    obtain ⟨rfl, rfl⟩ := hv
    refine ⟨g, rfl, hg, (Array.getElem?_eq_some_iff.1 hh).1, fun i hi => ?_, fun i => h0.1.frozenAt i, hnc⟩
    obtain ⟨_, _, _, _, h4⟩ := h0.has
    obtain ⟨b, off, ha, hlt, hc⟩ := h4 (by omega)
    cases ha
    simpa using hc i hi

set_option maxHeartbeats 2000000 in
theorem paSorted_any (a : Option Addr) (n cap : Nat) (xs : List Int) (w : World) (h : Has w a n cap xs) (h8 : n ≤ 1000) :
    Calls Try.prog 104 #[.slice a n cap] w fun e w' => ∃ a' cap', e = .returned (.slice a' n cap') ∧ Own w' w.heap.size a' n cap' (insSort xs) ∧ Below w.heap.size w w' := by
  have HL := hid h.len
  go_enter Try.func104, Try.ntmps104
  go_wp2_with fail
  go_loopw [3, 10] (fun o i wr => ∃ (k : Nat) (a' : Option Addr) (cap' : Nat), k ≤ n ∧ i = .int .i64 k ∧ o = .slice a' k cap' ∧ Own wr w.heap.size a' k cap' (insSort (xs.take k)) ∧ Below w.heap.size w wr) (fun _ i _ => n - (intOf i).toNat)
  case atStart => exact ⟨0, none, 0, Nat.zero_le _, rfl, rfl, Own.nil _ _, Below.refl _ _⟩
  case round =>
    obtain ⟨k, a', cap', hk, rfl, rfl, hown, hb⟩ := hrel
    by_cases hlt : k < n
    · obtain ⟨b, off, rfl, hbb, hc⟩ := h.2.2.2.2 (by omega)
      have hck : wr.cell? ⟨b, off + k, none⟩ = some (.int .i64 (nth xs k)) := by rw [hb.cell (p := ⟨b, off + k, none⟩) hbb]; exact hc k hlt
      have HS := hid (insSort_succ (xs := xs) (k := k) (by rw [HL.out]; omega))
      have hsz := hb.size
      have hlen := hown.len
      have HLO := hid hlen
      clear hc hlen
      cases a' with
      | none =>
        obtain ⟨hk1, hcap1, hnil⟩ := hown.noneOf
        have hk0 : k ≤ 0 := by omega
        have hcap0 : cap' ≤ 0 := by omega
        have HN := hid hnil
        clear hnil hk1 hcap1
        go_wp2_with fail
        refine wp_loop_rounds 1 ?_
        rw [rounds_succ]
        have hk00 : ¬ (0 : Int) < (k : Int) := by omega
        clear hown HLO
        go_wp2_with fail
        refine (l1Own_any _ _ _ _ _ (Has.empty none (Nat.le_refl _) (Nat.le_refl _))).mono ?_
        rintro e w2 ⟨a2, cap2, rfl, hown2, hb2⟩
        go_wp2_with (first | (at_builtin; refine wpList_append_int _ rfl _ _ rfl wr.heap.size _ _ _ _ _ rfl rfl hown2 (by omega) hb2.size ?_; intro a3 cap3 w3 hown3 hb3) | (at_builtin; refine wpList_append_ints _ rfl _ _ rfl wr.heap.size _ none _ _ _ _ _ [] rfl rfl hown3 (Has.empty none (by omega) (by omega)) (by omega) (Nat.le_trans hb2.size hb3.size) ?_; intro a4 n4 cap4 w4 hn4 hown4 hb4))
        go_roundw
        case rel =>
          exact ⟨k + 1, _, _, by omega, by go_num, slice_len (by omega), (hown4.mono hsz).relen (by omega) (by rw [HS.out, HN.out]; rfl), hb.trans (((hb2.trans hb3).trans hb4).mono hsz)⟩
        case measure => simp [intOf]; omega
      | some p =>
        obtain ⟨g, rfl, hg1, hg2, hg3, hg4, hkc⟩ := hown.someOf
        have HA := hown.has
        go_wp2_with fail
        go_loop [6] (fun q => ∃ j : Nat, j ≤ k ∧ q = .int .i64 j ∧ Hid (∀ t, t < j → nth (insSort (xs.take k)) t ≤ nth xs k)) (fun q => k - (intOf q).toNat)
        case atStart => exact ⟨0, by omega, rfl, hid (fun t ht => by omega)⟩
        case round =>
          obtain ⟨j, hj, rfl, HJ⟩ := hrel
          have fin : ∀ (HX : j = k ∨ nth xs k < nth (insSort (xs.take k)) j), Hid (insSort (xs.take (k + 1)) = (insSort (xs.take k)).take j ++ [nth xs k] ++ (insSort (xs.take k)).drop j) := fun HX =>
            hid (by rw [HS.out]; exact ins_at j _ (by rw [HLO.out]; exact hj) HJ.out (by rw [HLO.out]; exact HX))
          have FIN := hid fin
          clear fin
          by_cases hjk : j < k
          · have hjc := hg3 j hjk
            by_cases hle : nth (insSort (xs.take k)) j ≤ nth xs k
            · have HLE := hid hle
              go_wp2_with fail
              go_round
              case rel => exact ⟨j + 1, by omega, by go_num, hid (fun t ht => by rcases Nat.lt_succ_iff_lt_or_eq.1 ht with h1 | rfl; exact HJ.out t h1; exact HLE.out)⟩
              case measure => simp [intOf]; omega
            · have HF := FIN.out (.inr (by omega))
              have hcj : ¬ cap' = j := by omega
              clear FIN hg3 hg4
              go_wp2_with fail
              refine (l1Own_any _ _ _ _ _ (HA.take (k := j) (by omega))).mono ?_
              rintro e w2 ⟨a2, cap2, rfl, hown2, hb2⟩
              have hd2 := (HA.drop (k := j) (by omega)).below hb2 (Nat.le_refl _)
              rw [Nat.zero_add] at hd2
              have hblk : ∀ p, (some ⟨g, j, none⟩ : Option Addr) = some p → p.block < wr.heap.size := fun p hp => by cases hp; exact hg2
              have HBK := hid hblk
              clear hblk
              go_wp2_with (first | (at_builtin; refine wpList_append_int _ rfl _ _ rfl wr.heap.size _ _ _ _ _ rfl rfl hown2 (by omega) hb2.size ?_; intro a3 cap3 w3 hown3 hb3) | (at_builtin; refine wpList_append_ints _ rfl _ _ rfl wr.heap.size _ _ _ _ _ _ _ _ rfl rfl hown3 (hd2.belowB hb3 HBK.out) (by omega) (Nat.le_trans hb2.size hb3.size) ?_; intro a4 n4 cap4 w4 hn4 hown4 hb4))
              go_roundw
              case rel =>
                exact ⟨k + 1, _, _, by omega, by go_num, slice_len (by omega), (hown4.mono hsz).relen (by omega) HF.out, hb.trans (((hb2.trans hb3).trans hb4).mono hsz)⟩
              case measure => simp [intOf]; omega
          · obtain rfl : k = j := by omega
            have HF := FIN.out (.inl rfl)
            rw [List.drop_eq_nil_of_le (by rw [HLO.out]; omega)] at HF
            clear FIN hg3 hg4 hjk
            by_cases hcj : cap' = k
            · obtain rfl : k = cap' := hcj.symm
              clear hcj
              go_wp2_with fail
              refine (l1Own_any _ _ _ _ _ (HA.take (k := k) (by omega))).mono ?_
              rintro e w2 ⟨a2, cap2, rfl, hown2, hb2⟩
              go_wp2_with (first | (at_builtin; refine wpList_append_int _ rfl _ _ rfl wr.heap.size _ _ _ _ _ rfl rfl hown2 (by omega) hb2.size ?_; intro a3 cap3 w3 hown3 hb3) | (at_builtin; refine wpList_append_ints _ rfl _ _ rfl wr.heap.size _ _ _ _ _ _ _ [] rfl rfl hown3 (Has.nilAt _ (by unfold maxLen; omega)) (by omega) (Nat.le_trans hb2.size hb3.size) ?_; intro a4 n4 cap4 w4 hn4 hown4 hb4))
              go_roundw
              case rel =>
                exact ⟨k + 1, _, _, by omega, by go_num, slice_len (by omega), (hown4.mono hsz).relen (by omega) HF.out, hb.trans (((hb2.trans hb3).trans hb4).mono hsz)⟩
              case measure => simp [intOf]; omega
            · have hmax : cap' - k ≤ maxLen := by have := HA.2.2.1; omega
              have HMX := hid hmax
              clear hmax
              go_wp2_with fail
              refine (l1Own_any _ _ _ _ _ (HA.take (k := k) (by omega))).mono ?_
              rintro e w2 ⟨a2, cap2, rfl, hown2, hb2⟩
              go_wp2_with (first | (at_builtin; refine wpList_append_int _ rfl _ _ rfl wr.heap.size _ _ _ _ _ rfl rfl hown2 (by omega) hb2.size ?_; intro a3 cap3 w3 hown3 hb3) | (at_builtin; refine wpList_append_ints _ rfl _ _ rfl wr.heap.size _ _ _ _ _ _ _ [] rfl rfl hown3 (Has.nilAt _ HMX.out) (by omega) (Nat.le_trans hb2.size hb3.size) ?_; intro a4 n4 cap4 w4 hn4 hown4 hb4))
              go_roundw
              case rel =>
                exact ⟨k + 1, _, _, by omega, by go_num, slice_len (by omega), (hown4.mono hsz).relen (by omega) HF.out, hb.trans (((hb2.trans hb3).trans hb4).mono hsz)⟩
              case measure => simp [intOf]; omega
    · obtain rfl : k = n := by omega
      go_wp2_with fail
      go_ret
      exact ⟨_, _, rfl, by rw [List.take_of_length_le (by rw [HL.out]; omega)] at hown; exact hown, hb⟩
end Go.Proofs.Ytfkejkkplafciad

/- The model's functions of chapter 5, by their contracts: long cars. -/
import Derived.Test.YtnddplldkgphnacSpecC
import Derived.Test.YtnddplldkgphnacSpecS
import Derived.Test.YtnddplldkgphnacImplA
import Derived.Test.YtnddplldkgphnacMathLl
namespace Go.Proofs.Ytnddplldkgphnac
open Go.RowKit

theorem small_lengths {ls : List Int} (h : allB ls 1 12 = true) : Small ls := fun i hi => by
  have := allB_nth h hi
  omega

set_option maxHeartbeats 400000 in
theorem loLengths_any (a : Option Addr) (n cap : Nat) (ls : List Int) (w : World) (h : Has w a n cap ls) :
    Calls Try.prog 50 #[.slice a n cap] w fun e w' => e = .returned (.bool (lenB ls)) ∧ w = w' := by
  have HN := hid h.len
  by_cases h1 : inB n 1 8 = true
  · by_cases h2 : allB ls 1 12 = true
    · have HR : Hid (lenB ls = decide (total ls ≤ 12)) := hid (by simp [lenB, HN.out, h1, h2])
      have hs := small_lengths h2
      have H1 := hid h1
      have H2 := hid h2
      clear h1 h2
      go_enter Try.func50, Try.ntmps50
      go_wp2_with (first | (go_at_call 76; refine (l1In_any _ _ _ _).mono ?_; rintro e w' ⟨rfl, rfl⟩; rw [H1.out]) | (go_at_call 91; refine (l1All_any _ _ _ _ _ _ _ h).mono ?_; rintro e w' ⟨rfl, rfl⟩; rw [H2.out]) | (go_at_call 51; refine (paSum_any _ _ _ _ _ h hs).mono ?_; rintro e w' ⟨rfl, rfl⟩))
      go_ret
      exact ⟨ret_bool HR.out.symm, rfl⟩
    · have HR : Hid (lenB ls = false) := hid (by simp [lenB, h2])
      have H1 := hid h1
      have H2 := hid h2
      clear h1 h2
      go_enter Try.func50, Try.ntmps50
      go_wp2_with (first | (go_at_call 76; refine (l1In_any _ _ _ _).mono ?_; rintro e w' ⟨rfl, rfl⟩; rw [H1.out]) | (go_at_call 91; refine (l1All_any _ _ _ _ _ _ _ h).mono ?_; rintro e w' ⟨rfl, rfl⟩; rw [Bool.eq_false_iff.2 H2.out]))
      go_ret
      exact ⟨ret_bool HR.out.symm, rfl⟩
  · have HR : Hid (lenB ls = false) := hid (by simp [lenB, HN.out, h1])
    have H1 := hid h1
    clear h1
    go_enter Try.func50, Try.ntmps50
    go_wp2_with (go_at_call 76; refine (l1In_any _ _ _ _).mono ?_; rintro e w' ⟨rfl, rfl⟩; rw [Bool.eq_false_iff.2 H1.out])
    go_ret
    exact ⟨ret_bool HR.out.symm, rfl⟩

theorem lenB_sum {ls : List Int} (h : lenB ls = true) : Small ls ∧ 1 ≤ total ls ∧ total ls ≤ 12 ∧ 1 ≤ ls.length ∧ ls.length ≤ 8 ∧ ∀ i, i < ls.length → 1 ≤ nth ls i ∧ nth ls i ≤ 12 := by
  obtain ⟨h1, h2, h3⟩ := lenB_iff.1 h
  have h4 := total_ge (fun x hx => (h2 x hx).1) ls.length (Nat.le_refl _)
  rw [List.take_of_length_le (Nat.le_refl _)] at h4
  exact ⟨fun i hi => by have := h2 _ (nth_mem hi); omega, by omega, h3, h1.1, h1.2, fun i hi => h2 _ (nth_mem hi)⟩

set_option maxHeartbeats 400000 in
theorem loTask_any (a b : Option Addr) (n m cap cap' : Nat) (xs ls : List Int) (w : World) (h : Has w a n cap xs) (h' : Has w b m cap' ls) :
    Calls Try.prog 57 #[.slice a n cap, .slice b m cap'] w fun e w' => e = .returned (.bool (taskB xs ls)) ∧ w = w' := by
  have HN := hid h.len
  have HM := hid h'.len
  by_cases h1 : lenB ls = true
  · obtain ⟨hs, t1, t2, -, -, -⟩ := lenB_sum h1
    by_cases h2 : n = m
    · subst h2
      have hbe : ((n : Int) == (n : Int)) = true := by simp
      have HR : Hid (taskB xs ls = allB xs 0 (total ls - 1)) := hid (by simp [taskB, HN.out, HM.out, h1])
      have H1 := hid h1
      clear h1
      go_enter Try.func57, Try.ntmps57
      go_wp2_with (first | (go_at_call 50; refine (loLengths_any _ _ _ _ _ h').mono ?_; rintro e w' ⟨rfl, rfl⟩; rw [H1.out]) | (go_at_call 51; refine (paSum_any _ _ _ _ _ h' hs).mono ?_; rintro e w' ⟨rfl, rfl⟩) | (go_at_call 91; refine (l1All_any _ _ _ _ _ _ _ h).mono ?_; rintro e w' ⟨rfl, rfl⟩))
      go_ret
      exact ⟨ret_bool HR.out.symm, rfl⟩
    · have hbe : ((n : Int) == (m : Int)) = false := by simp; omega
      have HR : Hid (taskB xs ls = false) := hid (by simp [taskB, HN.out, HM.out, h2])
      have H1 := hid h1
      clear h1
      go_enter Try.func57, Try.ntmps57
      go_wp2_with (first | (go_at_call 50; refine (loLengths_any _ _ _ _ _ h').mono ?_; rintro e w' ⟨rfl, rfl⟩; rw [H1.out]))
      go_ret
      exact ⟨ret_bool HR.out.symm, rfl⟩
  · have HR : Hid (taskB xs ls = false) := hid (by simp [taskB, h1])
    have H1 := hid h1
    clear h1
    go_enter Try.func57, Try.ntmps57
    go_wp2_with (first | (go_at_call 50; refine (loLengths_any _ _ _ _ _ h').mono ?_; rintro e w' ⟨rfl, rfl⟩; rw [Bool.eq_false_iff.2 H1.out]))
    go_ret
    exact ⟨ret_bool HR.out.symm, rfl⟩

/-- Bools in a block of their own. -/
structure Bls (w : World) (g p : Nat) (f : Nat → Bool) : Prop where
  lt : g < w.heap.size
  cells : ∀ i, i < p → w.cell? ⟨g, i, none⟩ = some (.bool (f i))
  free : ∀ i, w.frozen? ⟨g, i, none⟩ = false

theorem Bls.below {w w' : World} {g p K : Nat} {f : Nat → Bool} (h : Bls w g p f) (hb : Below K w w') (hK : g < K) : Bls w' g p f := by
  have := hb.size
  have := h.lt
  refine ⟨by omega, fun i hi => ?_, fun i => ?_⟩
  · rw [hb.cell (p := ⟨g, i, none⟩) (by simpa using hK)]; exact h.cells i hi
  · rw [hb.frozen (p := ⟨g, i, none⟩) (by simpa using hK)]; exact h.free i
theorem Bls.congr {w : World} {g p : Nat} {f f' : Nat → Bool} (h : Bls w g p f) (e : ∀ i, i < p → f' i = f i) : Bls w g p f' := ⟨h.lt, fun i hi => by rw [e i hi]; exact h.cells i hi, h.free⟩
theorem Bls.set {w : World} {g p x : Nat} {f : Nat → Bool} (h : Bls w g p f) (hx : x < p) : Bls (w.setCell ⟨g, x, none⟩ (.bool true)) g p (fun i => if i = x then true else f i) := by
  refine ⟨by simpa using h.lt, fun i hi => ?_, fun i => by rw [World.frozen?_setCell]; exact h.free i⟩
  by_cases e : i = x
  · subst e
    rw [World.cell?_setCell_same _ _ _ (h.cells i hx)]; simp
  · rw [World.cell?_setCell_other _ _ _ _ (by intro hh; injection hh with _ h5 _; exact e h5.symm), h.cells i hi]; simp [e]

/-- What driving long cars comes to: the places up to the first blocked car. -/
def PostOut (w : World) (out : List Int) (e : Ending) (w' : World) : Prop := ∃ a k cap, e = .returned (.slice a k cap) ∧ Own w' w.heap.size a k cap out ∧ Below w.heap.size w w'
theorem long_blocked {xs ls out T : List Int} {P : Int} {k n : Nat} (hP : total ls = P) (hn : xs.length = n) (hk : k < n) (h : longAt P xs ls k = (out, T, true)) (hb : ¬ (0 ≤ place P T (nth xs k) ∧ fits T P (place P T (nth xs k)) (nth ls k).toNat = true)) : longN xs ls = out := by
  have hs := longAt_stop h hb
  have := longAt_end (p := P) (xs := xs) (ls := ls) (k := k + 1) (by rw [hs]) n (by omega)
  unfold longN
  rw [hP, hn, this, hs]
theorem place_blocked {T : List Int} {P x y q L : Nat} (hr : Runs T P x y) (hy : ¬ ((y : Int) < P ∧ (y : Int) ∈ T)) (hyP : y ≤ P) (h1 : y ≤ q) (h2 : q < y + L) (hq : ¬ (q < P ∧ hasB T q = false)) : ¬ (0 ≤ place (P : Int) T x ∧ fits T P (place (P : Int) T x) L = true) := by
  rw [place_of hr hy (by omega)]
  rintro ⟨h3, h4⟩
  by_cases e : (P : Int) ≤ y
  · rw [if_pos e] at h3; omega
  · rw [if_neg e] at h4
    rw [fits_no (L := q - y) (M := L) (by
      have : (y : Int) + ((q - y : Nat) : Int) = (q : Int) := by omega
      rw [this]
      intro h
      exact hq ⟨by omega, h.2⟩) (by omega)] at h4
    simp at h4

set_option maxHeartbeats 4000000 in
theorem loDrive_any (a b : Option Addr) (n cap m capl P : Nat) (xs ls : List Int) (w : World) (h : Has w a n cap xs) (h' : Has w b m capl ls) (hnm : n = m) (hl : lenB ls = true) (hP : total ls = (P : Int)) (hge : ∀ i, i < n → 0 ≤ nth xs i ∧ nth xs i ≤ (P : Int) - 1) :
    Calls Try.prog 58 #[.slice a n cap, .slice b m capl] w (PostOut w (longN xs ls)) := by
  obtain ⟨hs, t1, t2, -, hl8, hlb⟩ := lenB_sum hl
  rw [h'.len] at hl8 hlb
  have hP12 : P ≤ 12 := by omega
  have HN := hid h.len
  have HM := hid h'.len
  have HNM := hid hnm
  have hn8 : n ≤ 8 := by omega
  have HGE := hid hge
  have HLB := hid hlb
  have HPT := hid hP
  clear hnm hl hge hlb hP t1 t2
  go_enter Try.func58, Try.ntmps58
  go_wp2_with (first | (go_at_call 51; refine (paSum_any _ _ _ _ _ h' hs).mono ?_; rintro e w' ⟨rfl, rfl⟩; rw [HPT.out]) | (at_make; refine wpList_make_bools _ rfl _ _ rfl P rfl rfl (by omega) ?_; intro w1 hc1 hf1 hb1 hs1))
  have B0 : Bls w1 w.heap.size P (fun z => hasB [] z) := ⟨hs1, fun i hi => by rw [hc1 i hi]; simp [hasB], hf1⟩
  clear hs hc1 hf1
  go_loopw [6, 16] (fun o i wr => ∃ (k : Nat) (a' : Option Addr) (cap' : Nat) (out T : List Int), k ≤ n ∧ i = .int .i64 k ∧ o = .slice a' k cap' ∧ Own wr (w.heap.size + 1) a' k cap' out ∧ Bls wr w.heap.size P (fun z => hasB T z) ∧ Hid (longAt P xs ls k = (out, T, true)) ∧ Below w.heap.size w wr) (fun _ i _ => n - (intOf i).toNat)
  case atStart => exact ⟨0, none, 0, [], [], Nat.zero_le _, rfl, rfl, Own.nil _ _, B0, hid rfl, hb1⟩
  case round =>
    clear B0 hb1 hs1
    obtain ⟨k, a', cap', out, T, hk, rfl, rfl, hown, hB, HL, hb⟩ := hrel
    by_cases hlt : k < n
    · have hltm : k < m := by rw [← HNM.out]; exact hlt
      obtain ⟨b0, off, rfl, hbb, hc⟩ := h.2.2.2.2 (by omega)
      obtain ⟨bl, offl, rfl, hbl, hcl⟩ := h'.2.2.2.2 (by omega)
      have hck : wr.cell? ⟨b0, off + k, none⟩ = some (.int .i64 (nth xs k)) := by rw [hb.cell (p := ⟨b0, off + k, none⟩) hbb]; exact hc k hlt
      have hlk : wr.cell? ⟨bl, offl + k, none⟩ = some (.int .i64 (nth ls k)) := by rw [hb.cell (p := ⟨bl, offl + k, none⟩) hbl]; exact hcl k hltm
      obtain ⟨hx0, hx1⟩ := HGE.out k hlt
      obtain ⟨v0, v1⟩ := HLB.out k hltm
      obtain ⟨x, hx⟩ : ∃ x : Nat, nth xs k = (x : Int) := ⟨_, (Int.toNat_of_nonneg hx0).symm⟩
      obtain ⟨L, hL⟩ : ∃ L : Nat, nth ls k = (L : Int) := ⟨(nth ls k).toNat, by omega⟩
      rw [hx] at hck hx1
      rw [hL] at hlk v0 v1
      have HX := hid hx
      have HLL := hid hL
      have hLt : (nth ls k).toNat = L := by rw [hL]; rfl
      have HLT := hid hLt
      have HBK : Hid (∀ q y : Nat, Runs T P x y → ¬ ((y : Int) < P ∧ (y : Int) ∈ T) → y ≤ P → y ≤ q → q < y + L → ¬ (q < P ∧ hasB T q = false) → longN xs ls = out) := hid (fun q y r1 r2 r3 r4 r5 r6 => long_blocked HPT.out HN.out hlt HL.out (by rw [HX.out, HLT.out]; exact place_blocked r1 r2 r3 r4 r5 r6))
      clear hc hcl hx hx0 hL hLt
      go_wp2_with fail
      go_loop [8] (fun xv => ∃ y : Nat, xv = .int .i64 y ∧ x ≤ y ∧ y ≤ P ∧ Runs T P x y) (fun xv => P - (intOf xv).toNat)
      case atStart => exact ⟨x, rfl, Nat.le_refl _, by omega, Runs.refl _ _ _⟩
      case round =>
        obtain ⟨y, rfl, hxy, hyP, hrun⟩ := hrel
        by_cases hy : y < P ∧ hasB T y = true
        · have hcy := hB.cells y hy.1
          rw [hy.2] at hcy
          have hy1 := hy.1
          have HM2 := hid hy.2
          clear hy
          go_wp2_with fail
          go_round
          case rel => exact ⟨y + 1, by go_num, by omega, by omega, by have := hrun.step (by omega) (hasB_iff.1 HM2.out); simpa using this⟩
          case measure => simp [intOf]; omega
        · have hfree : ¬ ((y : Int) < P ∧ (y : Int) ∈ T) := fun e => hy ⟨by omega, hasB_iff.2 e.2⟩
          have HFR := hid hfree
          have hcy : y < P → wr.cell? ⟨w.heap.size, y, none⟩ = some (.bool false) := fun hp => by
            have e : hasB T y = false := by
              cases hh : hasB T y with
              | true => exact absurd ⟨hp, hh⟩ hy
              | false => rfl
            have := hB.cells y hp
            rw [e] at this
            exact this
          have HCY := hid hcy
          clear hy hfree hcy
          (by_cases hyy : y < P) <;>
          ((try have hcy := HCY.out hyy)
           go_wp2_with fail
           go_loop [9] (fun kv => ∃ q : Nat, kv = .int .i64 q ∧ y ≤ q ∧ q ≤ y + L ∧ Hid (fits T P y (q - y) = true)) (fun kv => y + L - (intOf kv).toNat)
           case atStart => exact ⟨y, rfl, Nat.le_refl _, by omega, hid (by rw [Nat.sub_self]; rfl)⟩
           case round =>
             obtain ⟨q, rfl, hq1, hq2, HF⟩ := hrel
             by_cases hqL : q < y + L
             · by_cases hqP : q < P
               ·
                 (try (exfalso; omega))
                 all_goals (
                  by_cases hqm : hasB T q = true
                  · have hcq := hB.cells q hqP
                    rw [hqm] at hcq
                    have HR := hid (HBK.out q y hrun HFR.out hyP hq1 hqL (by rw [hqm]; simp))
                    clear hqm
                    go_wp2_with fail
                    go_ret
                    exact ⟨_, _, _, rfl, by rw [HR.out]; exact hown.mono (by omega), hb⟩
                  · have hqf : hasB T q = false := by simpa using hqm
                    have hcq := hB.cells q hqP
                    rw [hqf] at hcq
                    have HS := hid (fits_yes (T := T) (p := (P : Int)) (y := (y : Int)) (L := q - y) HF.out (by omega) (by rw [show (y : Int) + ((q - y : Nat) : Int) = (q : Int) from by omega]; exact hqf))
                    clear hqm hqf
                    go_wp2_with fail
                    go_round
                    case rel => exact ⟨q + 1, by go_num, by omega, by omega, hid (by rw [show q + 1 - y = q - y + 1 from by omega]; exact HS.out)⟩
                    case measure => simp [intOf]; omega)
               · have HR := hid (HBK.out q y hrun HFR.out hyP hq1 hqL (fun e => hqP e.1))
                 go_wp2_with fail
                 go_ret
                 exact ⟨_, _, _, rfl, by rw [HR.out]; exact hown.mono (by omega), hb⟩
             · have HFF : Hid (fits T P y L = true) := hid (by have := HF.out; rw [show q - y = L from by omega] at this; exact this)
               have hyp2 : y < P := by
                 have e := HFF.out
                 by_cases e2 : y < P
                 · exact e2
                 · rw [fits_no (L := 0) (by simp; omega) (by omega)] at e
                   simp at e
               (try (exfalso; omega))
               all_goals (
                have HGO : Hid (longAt P xs ls (k + 1) = (out ++ [(y : Int)], T ++ cover y L, true)) := hid (by
                  have := longAt_go (y := (y : Int)) HL.out (by rw [HX.out, place_of hrun HFR.out (by omega), if_neg (by omega)]) (by omega) (by rw [HLT.out]; exact HFF.out)
                  rw [HLT.out] at this
                  exact this)
                go_wp2_with fail
                go_loopw [10] (fun kv wq => ∃ q : Nat, kv = .int .i64 q ∧ y ≤ q ∧ q ≤ y + L ∧ Own wq (w.heap.size + 1) a' k cap' out ∧ Bls wq w.heap.size P (fun z => hasB (T ++ cover y (q - y)) z) ∧ Below w.heap.size w wq) (fun kv _ => y + L - (intOf kv).toNat)
                case atStart => exact ⟨y, rfl, Nat.le_refl _, by omega, hown, hB.congr (fun i _ => by simp [cover]), hb⟩
                case round =>
                  clear hown hB hb hck hlk hq1 hq2 HF hqL
                  obtain ⟨q, rfl, hq1, hq2, hown, hB, hb⟩ := hrel
                  have hlk : wr.cell? ⟨bl, offl + k, none⟩ = some (.int .i64 (L : Int)) := by
                    have := h'.2.2.2.2 (by omega)
                    obtain ⟨b9, o9, e9, -, hcl⟩ := this
                    cases e9
                    rw [hb.cell (p := ⟨bl, offl + k, none⟩) hbl, hcl k hltm, HLL.out]
                  by_cases hqL : q < y + L
                  · have hqP : q < P := by
                      by_cases e2 : q < P
                      · exact e2
                      · have e := HFF.out
                        rw [fits_no (L := q - y) (by rw [show (y : Int) + ((q - y : Nat) : Int) = (q : Int) from by omega]; omega) (by omega)] at e
                        simp at e
                    have hcq := hB.cells q hqP
                    have hfq := hB.free q
                    go_wp2_with fail
                    go_roundw
                    case rel =>
                      refine ⟨q + 1, by go_num, by omega, by omega, hown.kept (g := w.heap.size) ⟨rfl, rfl, rfl, by simp, fun j _ hne => heap_setCell_other _ _ j _ (fun e => hne (by simp [e]))⟩ (.inl (by omega)), (hB.set hqP).congr (fun i hi => ?_), hb.setCell (by simp) _⟩
                      rw [show q + 1 - y = q - y + 1 from by omega, cover, ← List.append_assoc, hasB_append, show (y : Int) + ((q - y : Nat) : Int) = (q : Int) from by omega]
                      by_cases e : i = q
                      · subst e; simp [hasB]
                      · have e2 : ¬ (i : Int) = (q : Int) := by omega
                        simp [hasB, e, e2]
                    case measure => simp [intOf]; omega
                  · obtain rfl : q = y + L := by omega
                    rw [show y + L - y = L from by omega] at hB
                    have hbs := hb.size
                    have hlt8 := hB.lt
                    go_wp2_with (at_builtin; refine wpList_append_int _ rfl _ _ rfl (w.heap.size + 1) _ _ _ _ _ rfl rfl hown (by omega) (by omega) ?_; intro a3 cap3 w3 hown3 hb3)
                    go_roundw
                    case rel => exact ⟨k + 1, a3, cap3, _, _, by omega, by go_num, rfl, hown3, hB.below hb3 (by omega), HGO, hb.trans (hb3.mono (by omega))⟩
                    case measure => simp [intOf]; omega))
    · obtain rfl : k = n := by omega
      have HR : Hid (longN xs ls = out) := hid (by unfold longN; rw [HPT.out, HN.out, HL.out])
      go_wp2_with fail
      go_ret
      exact ⟨_, _, _, rfl, by rw [HR.out]; exact hown.mono (by omega), hb⟩
end Go.Proofs.Ytnddplldkgphnac

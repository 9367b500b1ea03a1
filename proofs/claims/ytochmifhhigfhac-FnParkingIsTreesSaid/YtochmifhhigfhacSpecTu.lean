/- The model's functions of chapter 3, by their contracts: breadth orders, trees of parking functions, degrees, depths. -/
import Derived.Test.YtochmifhhigfhacSpecTs
namespace Go.Proofs.Ytochmifhhigfhac
open Go.RowKit

def brOf (xs : List Int) : List Int × Bool := if treeB xs then (brOrder xs, true) else ([], false)
def tpOf (xs : List Int) : List Int × Bool := if isPark xs then (tpL xs, true) else ([], false)
def potOf (xs : List Int) : List Int × Bool := if treeB xs then (potL xs, true) else ([], false)
def degOf (xs : List Int) : List Int × Bool := if treeB xs then (degL xs, true) else ([], false)
def leavesOf (xs : List Int) : List Int × Bool := if treeB xs then (leavesL xs, true) else ([], false)

set_option maxHeartbeats 1000000 in
theorem trBreadth_any (a : Option Addr) (n cap : Nat) (xs : List Int) (w : World) (h : Has w a n cap xs) (h8 : n ≤ 8) :
    Calls Try.prog 36 #[.slice a n cap] w fun e w' => ∃ a' m cap', e = .returned (.slice a' m cap') ∧ Own w' w.heap.size a' m cap' (brOrder xs) ∧ Below w.heap.size w w' := by
  have HL := hid h.len
  have hb0 : Below w.heap.size w (w.alloc (.cells #[.int .i64 0] 3)) := (Below.refl _ _).alloc (Nat.le_refl _) _
  have ho0 := own_lit1 w w.heap.size 0 (Nat.le_refl _)
  go_enter Try.func36, Try.ntmps36
  go_wp2_with fail
  go_loopw [3, 4] (fun o i wr => ∃ (k m : Nat) (a' : Option Addr) (cap' : Nat), k ≤ n + 1 ∧ i = .int .i64 k ∧ o = .slice a' m cap' ∧ Own wr w.heap.size a' m cap' (bfs xs k) ∧ Below w.heap.size w wr) (fun _ i _ => n + 2 - (intOf i).toNat)
  case atStart => exact ⟨0, 1, _, 1, by omega, rfl, rfl, ho0, hb0⟩
  case round =>
    obtain ⟨k, m, a', cap', hk, rfl, rfl, hown, hb⟩ := hrel
    have hm : m ≤ n + 1 := by have h1 := bfs_len xs k; have h2 := hown.len; have h3 := HL.out; omega
    have HM := hid hown.len
    clear ho0 hb0
    by_cases hlt : k < m
    · have HS := hid (bfs_step (ps := xs) (k := k) (by rw [HM.out]; exact hlt))
      go_wp2_with fail
      go_loopw [3, 16] (fun o i wr => ∃ (j q : Nat) (a' : Option Addr) (cap' : Nat), j ≤ n ∧ i = .int .i64 j ∧ o = .slice a' q cap' ∧ k < q ∧ q ≤ m + j ∧ Own wr w.heap.size a' q cap' (bfs xs k ++ nodesTo xs (nth (bfs xs k) k) j) ∧ Below w.heap.size w wr) (fun _ i _ => n - (intOf i).toNat)
      case atStart => exact ⟨0, m, a', cap', by omega, rfl, rfl, hlt, by omega, by rw [nodesTo_zero, List.append_nil]; exact hown, hb⟩
      case round =>
        clear hown hb
        obtain ⟨j, q, a2, cap2, hj, rfl, rfl, hkq, hq, hown, hb⟩ := hrel
        by_cases hjl : j < n
        · obtain ⟨b, off, rfl, hbb, hc⟩ := h.2.2.2.2 (by omega)
          have hck : wr.cell? ⟨b, off + j, none⟩ = some (.int .i64 (nth xs j)) := by rw [hb.cell (p := ⟨b, off + j, none⟩) hbb]; exact hc j hjl
          obtain ⟨g, rfl, hg1, hg2, hg3, hg4⟩ := hown.opened (by omega)
          have hgk := hg3 k hkq
          rw [nth_left (by rw [HM.out]; exact hlt)] at hgk
          clear hc hg3 hg4
          by_cases he : nth xs j = nth (bfs xs k) k
          · have HE := hid (nodesTo_yes he)
            have hbe : (nth xs j == nth (bfs xs k) k) = true := by simp [he]
            clear he
            go_wp2_with (at_builtin; refine wpList_append_int _ rfl _ _ rfl w.heap.size _ _ _ _ _ rfl rfl hown (by omega) hb.size ?_; intro a3 cap3 w3 hown3 hb3)
            go_roundw
            case rel => exact ⟨j + 1, q + 1, a3, cap3, by omega, by go_num, rfl, by omega, by omega, by rw [HE.out, ← List.append_assoc]; exact hown3, hb.trans hb3⟩
            case measure => simp [intOf]; omega
          · have HE := hid (nodesTo_no he)
            have hbe : (nth xs j == nth (bfs xs k) k) = false := by simp [he]
            clear he
            go_wp2_with fail
            go_roundw
            case rel => exact ⟨j + 1, q, _, cap2, by omega, by go_num, rfl, by omega, by omega, by rw [HE.out]; exact hown, hb⟩
            case measure => simp [intOf]; omega
        · obtain rfl : j = n := by omega
          have HN : Hid (nodesTo xs (nth (bfs xs k) k) j = nodesW xs (nth (bfs xs k) k)) := hid (by unfold nodesW; rw [HL.out])
          go_wp2_with fail
          go_roundw
          case rel => exact ⟨k + 1, q, a2, cap2, by omega, by go_num, rfl, by rw [HS.out, ← HN.out]; exact hown, hb⟩
          case measure => simp [intOf]; omega
    · have HD := hid (bfs_done (ps := xs) (k := k) (by rw [HM.out]; omega))
      go_wp2_with fail
      go_ret
      exact ⟨_, _, _, rfl, by rw [← HD.out]; exact hown, hb⟩

/-- What lies in a block below K is left in peace. -/
theorem own_kept {w w' : World} {B K g n cap : Nat} {xs : List Int} (h : Own w B (some ⟨g, 0, none⟩) n cap xs) (hb : Below K w w') (hg : g < K) : Own w' B (some ⟨g, 0, none⟩) n cap xs := by
  obtain ⟨⟨h1, h2⟩, h3⟩ := h
  refine ⟨⟨h1, ?_⟩, h3⟩
  rcases h2 with h2 | ⟨g', cap', cur, hv, hg', hh, r⟩
  · exact .inl h2
  · have hv' := hv
    simp at hv'
    obtain ⟨rfl, _⟩ := hv'
    exact .inr ⟨g, cap', cur, hv, hg', by rw [hb.block g hg]; exact hh, r⟩

set_option maxHeartbeats 2000000 in
theorem specTreeOf_any (a : Option Addr) (n cap : Nat) (xs : List Int) (w : World) (h : Has w a n cap xs) :
    Calls Try.prog 8 #[.slice a n cap] w (PostInts w (tpOf xs)) := by
  have HL := hid h.len
  by_cases hg : isPark xs = true
  · have HR : Hid (tpOf xs = (tpL xs, true)) := hid (by simp [tpOf, hg])
    have h8 : n ≤ 8 := by have := (isPark_iff.1 hg).1; rw [HL.out] at this; exact this
    have HG := hid hg
    have HB : Hid (∀ i, i < n → 0 ≤ nth xs i ∧ nth xs i < (n : Int)) := hid (fun i hi => by have := (isPark_iff.1 HG.out).2.1 _ (nth_mem (xs := xs) (i := i) (by rw [HL.out]; exact hi)); rw [HL.out] at this; omega)
    clear hg
    go_enter Try.func8, Try.ntmps8
    go_wp2_with (first | (go_at_call 30; refine (paParking_any _ _ _ _ _ h).mono ?_; rintro e w1 ⟨rfl, hb1⟩; rw [HG.out]) | (at_make; refine wpList_make_ints _ rfl _ _ rfl _ rfl rfl (by omega) ?_; intro a2 cap2 w2 hown2 hb2))
    have hs1 := hb1.size
    have hs2 := hb2.size
    have ho0 := own_lit1 w2 w2.heap.size 0 (Nat.le_refl _)
    have hbl : Below w2.heap.size w2 (w2.alloc (.cells #[.int .i64 0] 3)) := (Below.refl _ _).alloc (Nat.le_refl _) _
    have hb3 : Below w.heap.size w (w2.alloc (.cells #[.int .i64 0] 3)) := (hb1.trans (hb2.mono hs1)).trans (hbl.mono (by omega))
    have hy0 := hown2.below hbl (Nat.le_refl _)
    have hlt2 : ∀ p, a2 = some p → p.block < w2.heap.size := fun p hp => by subst hp; exact (hown2.1.lt p.block rfl).2
    have HLT := hid hlt2
    clear hbl hlt2 hown2 hb2
    go_loopw [5, 6] (fun o i wr => ∃ (k m : Nat) (a' : Option Addr) (cap' : Nat) (ys : List Int), k ≤ n + 1 ∧ i = .int .i64 k ∧ o = .slice a' m cap' ∧ Own wr w2.heap.size a' m cap' (tpo xs k) ∧ Own wr w1.heap.size a2 n cap2 ys ∧ TpAt xs ys k 0 ∧ Below w.heap.size w wr) (fun _ i _ => n + 2 - (intOf i).toNat)
    case atStart => exact ⟨0, 1, _, 1, _, by omega, rfl, rfl, ho0, hy0, by have := tpAt_zero (xs := xs) (fun x hx => ((isPark_iff.1 HG.out).2.1 x hx).1); rw [HL.out] at this; exact this, hb3⟩
    case round =>
      obtain ⟨k, m, a', cap', ys, hk, rfl, rfl, hown, hy, htp, hb⟩ := hrel
      have HTP := hid htp
      have HM := hid hown.len
      clear ho0 hy0 hb3 htp
      by_cases hkn : k ≤ n
      · have HP := hid (length_tpo_park HG.out (k := k) (by rw [HL.out]; exact hkn))
        have hlt : k < m := by have := HP.out.1; rw [HM.out] at this; exact this
        have hmn : m ≤ n + 1 := by have := HP.out.2; rw [HM.out, HL.out] at this; exact this
        go_wp2_with fail
        go_loopw [5, 24] (fun o i wr => ∃ (j q : Nat) (a' : Option Addr) (cap' : Nat) (ys : List Int), j ≤ n ∧ i = .int .i64 j ∧ o = .slice a' q cap' ∧ k < q ∧ q ≤ m + j ∧ Own wr w2.heap.size a' q cap' (tpo xs k ++ nodesTo xs k j) ∧ Own wr w1.heap.size a2 n cap2 ys ∧ TpAt xs ys k j ∧ Below w.heap.size w wr) (fun _ i _ => n - (intOf i).toNat)
        case atStart => exact ⟨0, m, a', cap', ys, by omega, rfl, rfl, hlt, by omega, by rw [nodesTo_zero, List.append_nil]; exact hown, hy, HTP.out, hb⟩
        case round =>
          clear hown hb hy HTP
          obtain ⟨j, q, a3, cap3, ys, hj, rfl, rfl, hkq, hq, hown, hy, htp, hb⟩ := hrel
          have HTP := hid htp
          clear htp
          by_cases hjl : j < n
          · obtain ⟨b, off, rfl, hbb, hc⟩ := h.2.2.2.2 (by omega)
            have hck : wr.cell? ⟨b, off + j, none⟩ = some (.int .i64 (nth xs j)) := by rw [hb.cell (p := ⟨b, off + j, none⟩) hbb]; exact hc j hjl
            obtain ⟨g, rfl, hg1, hg2, hg3, hg4⟩ := hown.opened (by omega)
            obtain ⟨g2, rfl, hh1, hh2, hh3, hh4⟩ := hy.opened (by omega)
            have hgl := HLT.out _ rfl
            have hgk := hg3 k hkq
            rw [nth_left (by rw [HM.out]; exact hlt)] at hgk
            have hhj := hh3 j hjl
            have hhf := hh4 j
            clear hc hg3 hg4 hh3 hh4
            by_cases he : nth xs j = (k : Int)
            · have HE := hid (nodesTo_yes he)
              have HT2 := hid (tpAt_yes (t := []) HG.out HTP.out (by rw [HL.out]; exact hjl) (by rw [hy.len, HL.out]) he)
              rw [List.append_nil] at HT2
              rw [he] at hck
              have hbe : ((k : Int) == (k : Int)) = true := by simp
              obtain ⟨y1, y2⟩ := hy.set j (nth (tpo xs k) k)
              have hown' := hown.kept y2 (.inl hgl)
              have hb' := hb.setCell (p := ⟨g2, j, none⟩) (by simp; omega) (.int .i64 (nth (tpo xs k) k))
              clear he hown
              have hsz : (wr.setCell ⟨g2, j, none⟩ (.int .i64 (nth (tpo xs k) k))).heap.size = wr.heap.size := by simp
              have hle4 : w2.heap.size ≤ (wr.setCell ⟨g2, j, none⟩ (.int .i64 (nth (tpo xs k) k))).heap.size := by omega
              have HSZ := hid hsz
              clear hsz
              go_wp2_with (at_builtin; rw [← HSZ.out]; refine wpList_append_int _ rfl _ _ rfl w2.heap.size _ _ _ _ _ rfl rfl hown' (by omega) hle4 ?_; intro a4 cap4 w4 hown4 hb4)
              go_roundw
              case rel => exact ⟨j + 1, q + 1, a4, cap4, _, by omega, by go_num, rfl, by omega, by omega, by rw [HE.out, ← List.append_assoc]; exact hown4, own_kept y1 hb4 hgl, HT2.out, hb'.trans (hb4.mono (by omega))⟩
              case measure => simp [intOf]; omega
            · have HE := hid (nodesTo_no he)
              have HT2 := hid (tpAt_no HTP.out he)
              have hbe : (nth xs j == (k : Int)) = false := by simp [he]
              clear he
              go_wp2_with fail
              go_roundw
              case rel => exact ⟨j + 1, q, _, cap3, ys, by omega, by go_num, rfl, by omega, by omega, by rw [HE.out]; exact hown, hy, HT2.out, hb⟩
              case measure => simp [intOf]; omega
          · obtain rfl : j = n := by omega
            have HN : Hid (nodesTo xs k j = nodesW xs k) := hid (by unfold nodesW; rw [HL.out])
            have HT2 : Hid (TpAt xs ys (k + 1) 0) := hid (tpAt_next (by rw [HL.out]; exact HTP.out))
            go_wp2_with fail
            go_roundw
            case rel => exact ⟨k + 1, q, a3, cap3, ys, by omega, by go_num, rfl, by simp only [tpo]; rw [← HN.out]; exact hown, hy, HT2.out, hb⟩
            case measure => simp [intOf]; omega
      · obtain rfl : k = n + 1 := by omega
        have hmle : m ≤ n + 1 := by
          have h1 := length_tpo (xs := xs) (fun x hx => ((isPark_iff.1 HG.out).2.1 x hx).1) (n + 1)
          have h2 := below_le xs ((n + 1 : Nat) : Int)
          rw [HL.out] at h2
          rw [HM.out] at h1
          omega
        have HF : Hid (ys = tpL xs) := hid (tpAt_all HG.out (by rw [hy.len, HL.out]) (by rw [HL.out]; omega) HTP.out)
        go_wp2_with fail
        go_ret2
        exact postInts HR.out (by rw [← HF.out]; exact hy.mono hs1) hb
  · have HR : Hid (tpOf xs = ([], false)) := hid (by simp [tpOf, hg])
    have HG := hid (Bool.eq_false_iff.2 hg)
    clear hg
    go_enter Try.func8, Try.ntmps8
    go_wp2_with (go_at_call 30; refine (paParking_any _ _ _ _ _ h).mono ?_; rintro e w1 ⟨rfl, hb1⟩; rw [HG.out])
    go_ret2
    exact postInts_no HR.out hb1
end Go.Proofs.Ytochmifhhigfhac

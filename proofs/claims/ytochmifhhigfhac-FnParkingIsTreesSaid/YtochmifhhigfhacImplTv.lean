/- The program's functions of chapter 3, by their contracts: trees of parking functions and back, the number of trees. -/
import Derived.Test.YtochmifhhigfhacImplTs
namespace Go.Proofs.Ytochmifhhigfhac
open Go.RowKit

set_option maxHeartbeats 400000 in
theorem index_any (a : Option Addr) (n cap : Nat) (xs : List Int) (x : Int) (w : World) (h : Has w a n cap xs) (hx : x ∈ xs) :
    Calls Try.prog 34 #[.slice a n cap, .int .i64 x] w fun e w' => e = .returned (.int .i64 (plc xs x : Int)) ∧ w = w' := by
  have hl := h.len
  obtain ⟨p1, p2, p3⟩ := plc_mem hx
  have P2 := hid p2
  have P3 := hid p3
  obtain ⟨b, off, rfl, hbb, hc⟩ := h.2.2.2.2 (by omega)
  have hle := h.le
  have hp : plc xs x < n := by omega
  clear p1 p2 p3 hl
  go_enter Try.func34, Try.ntmps34
  go_wp2_with fail
  go_loop [8] (fun i => ∃ k : Nat, k ≤ plc xs x ∧ i = .int .i64 k) (fun i => n - (intOf i).toNat)
  case atStart => exact ⟨0, Nat.zero_le _, rfl⟩
  case round =>
    obtain ⟨k, hk, rfl⟩ := hrel
    have hck := hc k (by omega)
    have hkn : k < n := by omega
    clear hc
    by_cases he : k = plc xs x
    · have hbe : (x == nth xs k) = true := by rw [he, P2.out]; simp
      have HE := hid he
      clear he
      go_wp2_with fail
      go_ret
      exact ⟨ret_int (by rw [HE.out]), rfl⟩
    · have hbe : (x == nth xs k) = false := by
        have := P3.out k (by omega)
        simp
        exact fun e => this e.symm
      go_wp2_with fail
      go_round
      case rel => exact ⟨k + 1, by omega, by go_num⟩
      case measure => simp [intOf]; omega

theorem tpo_step (xs : List Int) (k : Nat) : tpo xs (k + 1) = tpo xs k ++ nodesW xs (k : Int) := rfl

set_option maxHeartbeats 1000000 in
theorem implTreeOf_any (a : Option Addr) (n cap : Nat) (xs : List Int) (w : World) (h : Has w a n cap xs) :
    Calls Try.prog 7 #[.slice a n cap] w (PostInts w (tpOf xs)) := by
  have HL := hid h.len
  by_cases hg : isPark xs = true
  · have HR : Hid (tpOf xs = (tpL xs, true)) := hid (by simp [tpOf, hg])
    have h8 : n ≤ 8 := by have := (isPark_iff.1 hg).1; rw [HL.out] at this; exact this
    have HG := hid hg
    have HB : Hid (∀ i, i < n → 0 ≤ nth xs i ∧ nth xs i < (n : Int)) := hid (fun i hi => by have := (isPark_iff.1 HG.out).2.1 _ (nth_mem (xs := xs) (i := i) (by rw [HL.out]; exact hi)); rw [HL.out] at this; omega)
    clear hg
    go_enter Try.func7, Try.ntmps7
    go_wp2_with (go_at_call 28; refine (isParkingFunction_any _ _ _ _ _ h).mono ?_; rintro e w1 ⟨rfl, hb1⟩; rw [HG.out])
    have hs1 := hb1.size
    have ho0 := own_lit1 w1 w1.heap.size 0 (Nat.le_refl _)
    have hb0 : Below w1.heap.size w1 (w1.alloc (.cells #[.int .i64 0] 3)) := (Below.refl _ _).alloc (Nat.le_refl _) _
    go_loopw [4, 15] (fun o i wr => ∃ (k m : Nat) (a' : Option Addr) (cap' : Nat), k ≤ n ∧ i = .int .i64 k ∧ o = .slice a' m cap' ∧ Own wr w1.heap.size a' m cap' (tpo xs k) ∧ Below w1.heap.size w1 wr) (fun _ i _ => n - (intOf i).toNat)
    case atStart => exact ⟨0, 1, _, 1, by omega, rfl, rfl, ho0, hb0⟩
    case round =>
      obtain ⟨k, m, a', cap', hk, rfl, rfl, hown, hb⟩ := hrel
      clear ho0 hb0
      have HM := hid hown.len
      have HP := hid (length_tpo_park HG.out (k := k) (by rw [HL.out]; exact hk))
      have hmn : m ≤ n + 1 := by have := HP.out.2; rw [HM.out, HL.out] at this; exact this
      have hx1 := (h.below hb1 (Nat.le_refl _)).below hb (Nat.le_refl _)
      by_cases hlt : k < n
      · have HN : Hid ((nodesW xs (k : Int)).length ≤ n) := hid (by have := length_nodesTo xs (k : Int) xs.length; rw [HL.out] at this; unfold nodesW; rw [HL.out]; exact this)
        go_wp2_with fail
        refine (nodesWith_any _ _ _ _ _ _ hx1).mono ?_
        rintro e w2 ⟨a2, m2, cap2, rfl, hown2, hb2⟩
        have hm2 : m2 ≤ n := by have := HN.out; rw [hown2.len] at this; exact this
        have hownX := hown.below hb2 (Nat.le_refl _)
        have hle2 := Nat.le_trans hb.size hb2.size
        go_wp2_with (at_builtin; refine wpList_append_ints _ rfl _ _ rfl w1.heap.size _ _ _ _ _ _ _ _ rfl rfl hownX hown2.has (by omega) hle2 ?_; intro a4 n4 cap4 w4 hn4 hown4 hb4)
        go_roundw
        case rel => exact ⟨k + 1, n4, a4, cap4, by omega, by go_num, slice_len (by omega), by rw [tpo_step]; exact hown4, (hb.trans (hb2.mono hb.size)).trans hb4⟩
        case measure => simp [intOf]; omega
      · obtain rfl : k = n := by omega
        obtain ⟨wo, rfl⟩ : ∃ wo : World, wo = wr := ⟨_, rfl⟩
        have hkm : k < m := by have := HP.out.1; rw [HM.out] at this; exact this
        go_wp2_with (at_make; refine wpList_make_ints _ rfl _ _ rfl _ rfl rfl (by omega) ?_; intro a5 cap5 w5 hown5 hb5)
        have hownT := hown.below hb5 (Nat.le_refl _)
        have hsr := hb.size
        have hlt2 : ∀ p, a' = some p → p.block < wo.heap.size := fun p hp => by subst hp; exact (hown.1.lt p.block rfl).2
        have hx5 := hx1.below hb5 (Nat.le_refl _)
        clear hown hx1
        obtain ⟨g, rfl, hg1, hg2, hg3, hg4⟩ := hownT.opened (by omega)
        have hgl := hlt2 _ rfl
        have G3 := hid hg3
        clear hg3 hg4 hlt2
        go_loopw [29] (fun i wr => ∃ (j : Nat) (ys : List Int), j ≤ k ∧ i = .int .i64 j ∧ Own wr wo.heap.size a5 k cap5 ys ∧ FromTo (tpL xs) ys j ∧ Below wo.heap.size w5 wr) (fun i _ => k - (intOf i).toNat)
        case atStart => exact ⟨0, _, by omega, rfl, hown5, fun i hi => by omega, Below.refl _ _⟩
        case round =>
          obtain ⟨j, ys, hj, rfl, hy, hft, hbq⟩ := hrel
          have HF := hid hft
          clear hft hown5
          by_cases hjl : j < k
          · obtain ⟨g2, rfl, hh1, hh2, hh3, hh4⟩ := hy.opened (by omega)
            have hbj := HB.out j hjl
            obtain ⟨x, hx⟩ : ∃ x : Nat, nth xs j = (x : Int) := ⟨(nth xs j).toNat, by omega⟩
            have hxk : x < m := by omega
            have hgx : wr.cell? ⟨g, x, none⟩ = some (.int .i64 (nth (tpo xs k) x)) := by rw [hbq.cell (p := ⟨g, x, none⟩) (by simp; omega)]; exact G3.out x hxk
            have hcj : ∃ b off, a = some ⟨b, off, none⟩ ∧ wr.cell? ⟨b, off + j, none⟩ = some (.int .i64 (x : Int)) := by
              obtain ⟨b, off, hbo, hbb, hc⟩ := h.2.2.2.2 (by omega)
              obtain ⟨b', off', hbo', hbb', hc'⟩ := hx5.2.2.2.2 (by omega)
              rw [hbo] at hbo'
              cases hbo'
              refine ⟨b, off, hbo, ?_⟩
              rw [hbq.cell (p := ⟨b, off + j, none⟩) (by simp; omega), hc' j hjl, hx]
            obtain ⟨b, off, rfl, hcj⟩ := hcj
            have hhj := hh3 j hjl
            have hhf := hh4 j
            obtain ⟨y1, y2⟩ := hy.set j (nth (tpo xs k) x)
            have HS : Hid (FromTo (tpL xs) (ys.set j (nth (tpo xs k) x)) (j + 1)) := hid (fun i hi => by
              rw [nth_set (by rw [hy.len]; exact hjl)]
              by_cases e : j = i
              · subst e; rw [if_pos rfl, nth_tpL (by rw [HL.out]; exact hjl), hx, Int.toNat_natCast, HL.out]
              · rw [if_neg e]; exact HF.out i (by omega))
            clear hh3 hh4 hbj hx
            go_wp2_with fail
            go_roundw
            case rel => exact ⟨j + 1, _, by omega, by go_num, y1, HS.out, hbq.setCell hh1 _⟩
            case measure => simp [intOf]; omega
          · obtain rfl : j = k := by omega
            have HE : Hid (ys = tpL xs) := hid (ext_nth (by rw [hy.len, length_tpL, HL.out]) (fun i hi => HF.out i (by rw [hy.len] at hi; exact hi)))
            go_wp2_with fail
            go_ret2
            exact postInts HR.out (by rw [← HE.out]; exact hy.mono (by omega)) ((hb1.trans (hb.mono hs1)).trans ((hb5.mono (by omega)).trans (hbq.mono (by omega))))
  · have HR : Hid (tpOf xs = ([], false)) := hid (by simp [tpOf, hg])
    have HG := hid (Bool.eq_false_iff.2 hg)
    clear hg
    go_enter Try.func7, Try.ntmps7
    go_wp2_with (go_at_call 28; refine (isParkingFunction_any _ _ _ _ _ h).mono ?_; rintro e w1 ⟨rfl, hb1⟩; rw [HG.out])
    go_ret2
    exact postInts_no HR.out hb1

set_option maxHeartbeats 1000000 in
theorem implParkOf_any (a : Option Addr) (n cap : Nat) (xs : List Int) (w : World) (h : Has w a n cap xs) :
    Calls Try.prog 12 #[.slice a n cap] w (PostInts w (potOf xs)) := by
  have HL := hid h.len
  by_cases hg : treeB xs = true
  · have HR : Hid (potOf xs = (potL xs, true)) := hid (by simp [potOf, hg])
    have ht := tree_of hg h.len
    have h8 := ht.le
    have HI : Hid (∀ i, i < n → nth xs i ∈ brOrder xs) := hid (fun i hi => by have := ht.nthB i hi; exact br_all ht _ _ this.1 this.2 rfl)
    have HBL := hid (br_length ht)
    have HG := hid hg
    clear hg ht
    go_enter Try.func12, Try.ntmps12
    go_wp2_with (first | (go_at_call 14; refine (isTree_any _ _ _ _ _ h).mono ?_; rintro e w0 ⟨rfl, hb0⟩; rw [HG.out]) | (go_at_call 33; refine (breadthOrder_any _ _ _ _ _ (h.below hb0 (Nat.le_refl _)) h8).mono ?_; rintro e w1 ⟨a1, m1, cap1, rfl, hown1, hb1⟩) | (at_make; refine wpList_make_ints _ rfl _ _ rfl _ rfl rfl (by omega) ?_; intro a2 cap2 w2 hown2 hb2))
    have hs0 := hb0.size
    have hs1 := hb1.size
    have hs2 := hb2.size
    have hx1 := (h.below hb0 (Nat.le_refl _)).below hb1 (Nat.le_refl _)
    go_loopw [18] (fun i wr => ∃ (j : Nat) (ys : List Int), j ≤ n ∧ i = .int .i64 j ∧ Own wr w1.heap.size a2 n cap2 ys ∧ FromTo (potL xs) ys j ∧ Below w1.heap.size w1 wr) (fun i _ => n - (intOf i).toNat)
    case atStart => exact ⟨0, _, by omega, rfl, hown2, fun i hi => by omega, hb2⟩
    case round =>
      obtain ⟨j, ys, hj, rfl, hy, hft, hbq⟩ := hrel
      have HF := hid hft
      clear hft hown2 hb2
      have hxr := hx1.below hbq (Nat.le_refl _)
      by_cases hjl : j < n
      · obtain ⟨g2, rfl, hh1, hh2, hh3, hh4⟩ := hy.opened (by omega)
        obtain ⟨b, off, rfl, hbb, hc⟩ := hxr.2.2.2.2 (by omega)
        have hcj := hc j hjl
        have hhj := hh3 j hjl
        have hhf := hh4 j
        have hbr := hown1.has.below hbq (Nat.le_refl _)
        obtain ⟨y1, y2⟩ := hy.set j (plc (brOrder xs) (nth xs j) : Int)
        have HS : Hid (FromTo (potL xs) (ys.set j (plc (brOrder xs) (nth xs j) : Int)) (j + 1)) := hid (fun i hi => by
          rw [nth_set (by rw [hy.len]; exact hjl)]
          by_cases e : j = i
          · subst e; rw [if_pos rfl, nth_potL (by rw [HL.out]; exact hjl)]
          · rw [if_neg e]; exact HF.out i (by omega))
        clear hh3 hh4 hc
        go_wp2_with (go_at_call 34; refine (index_any _ _ _ _ _ _ hbr (HI.out j hjl)).mono ?_; rintro e w' ⟨rfl, rfl⟩)
        go_roundw
        case rel => exact ⟨j + 1, _, by omega, by go_num, y1, HS.out, hbq.setCell hh1 _⟩
        case measure => simp [intOf]; omega
      · obtain rfl : j = n := by omega
        have HE : Hid (ys = potL xs) := hid (ext_nth (by rw [hy.len, length_potL, HL.out]) (fun i hi => HF.out i (by rw [hy.len] at hi; exact hi)))
        go_wp2_with fail
        go_ret2
        exact postInts HR.out (by rw [← HE.out]; exact hy.mono (by omega)) ((hb0.trans (hb1.mono hs0)).trans (hbq.mono (by omega)))
  · have HR : Hid (potOf xs = ([], false)) := hid (by simp [potOf, hg])
    have HG := hid (Bool.eq_false_iff.2 hg)
    clear hg
    go_enter Try.func12, Try.ntmps12
    go_wp2_with (go_at_call 14; refine (isTree_any _ _ _ _ _ h).mono ?_; rintro e w1 ⟨rfl, hb1⟩; rw [HG.out])
    go_ret2
    exact postInts_no HR.out hb1
end Go.Proofs.Ytochmifhhigfhac

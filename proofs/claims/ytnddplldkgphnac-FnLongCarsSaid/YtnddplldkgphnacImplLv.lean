/- The program's stretched lists, by contract. -/
import Derived.Test.YtnddplldkgphnacImplLu
import Derived.StillTailTactics
namespace Go.Proofs.Ytnddplldkgphnac
open Go.RowKit

/-- The stretched list so far, and zeros behind it. -/
def strAt (xs ls : List Int) (k : Nat) : List Int := (stretch xs ls).take k ++ List.replicate (xs.length - k) 0
theorem length_strAt {xs ls : List Int} {k : Nat} (h : k ≤ xs.length) : (strAt xs ls k).length = xs.length := by simp [strAt, length_stretch]; omega
theorem nth_strAt {xs ls : List Int} {k : Nat} (h : k < xs.length) : nth (strAt xs ls k) k = 0 := by
  have : ((stretch xs ls).take k).length = k := by simp [length_stretch]; omega
  simp [strAt, nth, this, show 0 < xs.length - k by omega]
theorem strAt_next {xs ls : List Int} {k : Nat} (h : k < xs.length) : (strAt xs ls k).set k (strSum (drive xs.length xs) ls (nth xs k) ls.length) = strAt xs ls (k + 1) := by
  unfold strAt
  rw [stretch_take h]
  have hl : ((stretch xs ls).take k).length = k := by simp [length_stretch]; omega
  rw [List.set_append_right _ _ (by omega), hl, Nat.sub_self, show xs.length - k = (xs.length - (k + 1)) + 1 from by omega, List.replicate_succ, List.set_cons_zero, List.append_assoc]
  rfl
theorem set_self {zs : List Int} {k : Nat} (h : k < zs.length) : zs.set k (nth zs k) = zs := by
  refine ext_nth (by simp) fun i hi => ?_
  rw [nth_set h]
  split
  · rename_i e; subst e; rfl
  · rfl
theorem set_set' (zs : List Int) (k : Nat) (y z : Int) : (zs.set k y).set k z = zs.set k z := by simp

set_option maxRecDepth 100000 in
set_option maxHeartbeats 2000000 in
theorem stretch_any (a b : Option Addr) (n cap m capl : Nat) (xs ls : List Int) (w : World) (h : Has w a n cap xs) (h' : Has w b m capl ls) :
    Calls Try.prog 24 #[.slice a n cap, .slice b m capl] w (PostInts w (stretchOf xs ls)) := by
  have HN := hid h.len
  have HM := hid h'.len
  by_cases hl : lenB ls = true
  · have HY := hid (lens_yes hl)
    by_cases hd : (good xs m && allPark m xs) = true
    · have HD : Hid (driveCars xs m = (drive m xs, true)) := hid (by simp only [driveCars, if_pos hd])
      by_cases hmn : n = m
      · subst hmn
        have hbe : ((n : Int) != (n : Int)) = false := by simp
        have hp : isPark xs = true := by
          simp only [Bool.and_eq_true] at hd
          obtain ⟨g1, g2⟩ := hd
          obtain ⟨-, g4, g5⟩ := good_iff.1 g1
          rw [isPark_iff, HN.out]
          exact ⟨by have := HN.out; omega, g5, g2⟩
        have HR : Hid (stretchOf xs ls = (stretch xs ls, true)) := hid (by simp [stretchOf, hp, hl, HN.out, HM.out])
        obtain ⟨-, t1, t2, -, -, hlb⟩ := lenB_sum hl
        have HSB := hid (fun (x : Int) k (hk : k ≤ ls.length) => strSum_bounds (order := drive n xs) (small_of hlb) x k hk)
        have HTK := hid (fun k (hk : k ≤ ls.length) => (total_lens (small_of hlb) k hk).2)
        have HLB := hid (fun i (hi : i < n) => hlb i (by rw [HM.out]; exact hi))
        have hn8 : n ≤ 8 := by have := (isPark_iff.1 hp).1; have := HN.out; omega
        have HNX := hid (fun k (hk : k < xs.length) => strAt_next (ls := ls) hk)
        have HNZ := hid (fun k (hk : k < xs.length) => nth_strAt (ls := ls) hk)
        have HLS := hid (fun k (hk : k ≤ xs.length) => length_strAt (ls := ls) hk)
        clear hl hd hp hlb
        go_enter Try.func24, Try.ntmps24
        go_wp2_with (go_at_call 55; refine (totalLength_any _ _ _ _ _ h').mono ?_; rintro e w' ⟨rfl, rfl⟩; rw [HY.out])
        refine (driveCars_any _ _ _ _ _ _ h).mono ?_
        rw [HD.out]
        rintro e w1 ⟨a1, n1, cap1, rfl, hown1, hb1⟩
        obtain ⟨od, hod⟩ : ∃ od, drive n xs = od := ⟨_, rfl⟩
        have hn1 : n1 = n := by rw [← hown1.len]; show (drive n xs).length = n; rw [length_drive, HN.out]
        have hh1 := hown1.has
        simp only [hod] at hh1
        have HOD := hid hod
        subst hn1
        clear hod hown1
        go_wp2_with (at_make; refine wpList_make_ints _ rfl _ _ rfl n1 rfl rfl (by omega) ?_; intro a2 cap2 w2 hown2 hb2)
        have hz : strAt xs ls 0 = List.replicate n1 0 := by simp [strAt, HN.out]
        rw [← hz] at hown2
        have hs1 := hb1.size
        have HB1 := hid hb1
        clear hz hb1
        go_loopw [45] (fun i wr => ∃ (k : Nat), k ≤ n1 ∧ i = .int .i64 k ∧ Own wr w1.heap.size a2 n1 cap2 (strAt xs ls k) ∧ Below w1.heap.size w1 wr) (fun i _ => n1 - (intOf i).toNat)
        case atStart => exact ⟨0, Nat.zero_le _, rfl, hown2, hb2⟩
        case round =>
          clear hown2 hb2
          obtain ⟨k, hk, rfl, hown, hb⟩ := hrel
          have hww := HB1.out.trans (hb.mono hs1)
          by_cases hlt : k < n1
          · obtain ⟨b0, off, rfl, hbb, hc⟩ := h.2.2.2.2 (by omega)
            have hck : wr.cell? ⟨b0, off + k, none⟩ = some (.int .i64 (nth xs k)) := by rw [hww.cell (p := ⟨b0, off + k, none⟩) hbb]; exact hc k hlt
            have HS := hid (HNX.out k (by rw [HN.out]; exact hlt))
            have HZ0 := hid (HNZ.out k (by rw [HN.out]; exact hlt))
            have HZL := hid (HLS.out k (by rw [HN.out]; omega))
            generalize hx : nth xs k = x at *
            have HX := hid hx
            obtain ⟨zs, hzs⟩ : ∃ zs, strAt xs ls k = zs := ⟨_, rfl⟩
            rw [hzs] at hown
            have HZS := hid hzs
            obtain ⟨g, rfl, hg1, hg2, -, -⟩ := hown.opened (by omega)
            clear hc hx hzs
            obtain ⟨wo, rfl⟩ : ∃ wo : World, wo = wr := ⟨_, rfl⟩
            go_wp2_with fail
            go_loopw [52] (fun i wq => ∃ (j : Nat) (v : Int), j ≤ n1 ∧ i = .int .i64 j ∧ Own wq w1.heap.size (some ⟨g, 0, none⟩) n1 cap2 (zs.set k v) ∧ Hid (v = strSum od ls x j) ∧ Below w1.heap.size w1 wq ∧ g < wq.heap.size) (fun i _ => n1 - (intOf i).toNat)
            case atStart =>
              refine ⟨0, 0, Nat.zero_le _, rfl, ?_, hid rfl, hb, hg2⟩
              have : zs.set k 0 = zs := by
                have := set_self (zs := zs) (k := k) (by rw [← HZS.out, HZL.out, HN.out]; exact hlt)
                rw [← HZS.out] at this ⊢
                rw [HZ0.out] at this
                exact this
              rw [this]
              exact hown
            case round =>
              clear hown hb hck hg2 hww
              obtain ⟨j, v, hj, rfl, hown, HV, hb, hg2⟩ := hrel
              have hod := hh1.below hb (Nat.le_refl _)
              have hww := HB1.out.trans (hb.mono hs1)
              by_cases hjn : j < n1
              · obtain ⟨b2, off2, rfl, hb2, hc2⟩ := hod.2.2.2.2 (by omega)
                obtain ⟨b3, off3, rfl, hb3, hc3⟩ := h'.2.2.2.2 (by omega)
                have hd2 := hc2 j hjn
                have hd3 : wr.cell? ⟨b3, off3 + j, none⟩ = some (.int .i64 (nth ls j)) := by rw [hww.cell (p := ⟨b3, off3 + j, none⟩) hb3]; exact hc3 j hjn
                obtain ⟨v0, v1⟩ := HSB.out x j (by rw [HM.out]; omega)
                have v2 := HTK.out j (by rw [HM.out]; omega)
                rw [HOD.out, ← HV.out] at v0 v1
                obtain ⟨l0, l1⟩ := HLB.out j hjn
                clear hc2 hc3
                by_cases ht : nth od j < x
                · have HV2 : Hid (strSum od ls x (j + 1) = v + nth ls j) := hid (by rw [strSum, if_pos ht, HV.out])
                  obtain ⟨g', hga, -, -, hcg, hfg⟩ := hown.opened (by omega)
                  cases hga
                  have hgk := hcg k hlt
                  rw [nth_set (by rw [← HZS.out, HZL.out, HN.out]; exact hlt), if_pos rfl] at hgk
                  have hgf := hfg k
                  have hkn : (k : Int) < (n1 : Int) := by omega
                  have hjn2 : (j : Int) < (n1 : Int) := by omega
                  have hk0 : (0 : Int) ≤ (k : Int) := by omega
                  have hj0 : (0 : Int) ≤ (j : Int) := by omega
                  have hwr : IntKind.i64.wrap (v + nth ls j) = v + nth ls j := IntWalk.i64_in _ (by omega)
                  clear hcg hfg
                  go_wp2_with fail
                  go_still_tail 10, (by kernel_rfl)
                  change wpList _ _ _ _ _ wr.drew
                  go_wp2_with fail
                  go_roundw
                  case rel =>
                    obtain ⟨s1, s2⟩ := hown.set k (v + nth ls j)
                    rw [set_set'] at s1
                    exact ⟨j + 1, v + nth ls j, by omega, by go_num, s1, hid HV2.out.symm, (hb.setCell hg1 _).drew, by simpa using hg2⟩
                  case measure => simp [intOf]; omega
                · have HV2 : Hid (strSum od ls x (j + 1) = v) := hid (by rw [strSum, if_neg ht, HV.out]; omega)
                  go_wp2_with fail
                  go_roundw
                  case rel => exact ⟨j + 1, v, by omega, by go_num, hown, hid HV2.out.symm, hb, hg2⟩
                  case measure => simp [intOf]; omega
              · obtain rfl : j = n1 := by omega
                have HVV : Hid (zs.set k v = strAt xs ls (k + 1)) := hid (by rw [← HS.out, HZS.out, HV.out, HN.out, HM.out, HOD.out])
                go_wp2_with fail
                go_roundw
                case rel => exact ⟨k + 1, by omega, by go_num, by rw [← HVV.out]; exact hown, hb⟩
                case measure => simp [intOf]; omega
          · obtain rfl : k = n1 := by omega
            have HE : Hid (strAt xs ls k = stretch xs ls) := hid (by unfold strAt; rw [HN.out, Nat.sub_self, List.replicate_zero, List.append_nil, List.take_of_length_le (by rw [length_stretch, HN.out]; exact Nat.le_refl _)])
            go_wp2_with fail
            go_ret2
            exact postInts HR.out (by rw [← HE.out]; exact hown.mono hs1) hww
      · have HR : Hid (stretchOf xs ls = ([], false)) := hid (by simp [stretchOf, HN.out, HM.out, hmn])
        have hbe : ((n : Int) != (m : Int)) = true := by simp; omega
        clear hl hd hmn
        go_enter Try.func24, Try.ntmps24
        go_wp2_with (go_at_call 55; refine (totalLength_any _ _ _ _ _ h').mono ?_; rintro e w' ⟨rfl, rfl⟩; rw [HY.out])
        refine (driveCars_any _ _ _ _ _ _ h).mono ?_
        rw [HD.out]
        rintro e w1 ⟨a1, n1, cap1, rfl, hown1, hb1⟩
        go_wp2_with fail
        go_ret2
        exact postInts_no HR.out hb1
    · have HD : Hid (driveCars xs m = ([], false)) := hid (by simp only [driveCars, if_neg hd])
      have HR : Hid (stretchOf xs ls = ([], false)) := hid (by
        simp only [stretchOf]
        rw [if_neg]
        intro e
        simp only [Bool.and_eq_true, decide_eq_true_eq] at e
        obtain ⟨e1, e2, e3⟩ := e
        obtain ⟨p1, p2, p3⟩ := isPark_iff.1 e1
        apply hd
        rw [HN.out, HM.out] at e3
        subst e3
        rw [HN.out] at p1 p2 p3
        rw [Bool.and_eq_true, good_iff, HN.out]
        obtain ⟨q1, -, -⟩ := lenB_iff.1 e2
        rw [HM.out] at q1
        exact ⟨⟨⟨by omega, by omega⟩, p1, p2⟩, p3⟩)
      clear hl hd
      go_enter Try.func24, Try.ntmps24
      go_wp2_with (go_at_call 55; refine (totalLength_any _ _ _ _ _ h').mono ?_; rintro e w' ⟨rfl, rfl⟩; rw [HY.out])
      refine (driveCars_any _ _ _ _ _ _ h).mono ?_
      rw [HD.out]
      rintro e w1 ⟨a1, n1, cap1, rfl, hown1, hb1⟩
      go_wp2_with fail
      go_ret2
      exact postInts_no HR.out hb1
  · have HY := hid (lens_no hl)
    have HR : Hid (stretchOf xs ls = ([], false)) := hid (by simp [stretchOf, hl])
    clear hl
    go_enter Try.func24, Try.ntmps24
    go_wp2_with (go_at_call 55; refine (totalLength_any _ _ _ _ _ h').mono ?_; rintro e w' ⟨rfl, rfl⟩; rw [HY.out])
    refine (driveCars_any _ _ _ _ _ _ h).mono ?_
    rintro e w1 ⟨a1, n1, cap1, rfl, hown1, hb1⟩
    go_wp2_with fail
    go_ret2
    exact postInts_no HR.out hb1
end Go.Proofs.Ytnddplldkgphnac

/- StreetOf: the model's function. -/
import Derived.Test.YtadcmghjhgjeeabSpecFj
import Derived.Test.YtadcmghjhgjeeabImplRa
import Derived.Test.YtadcmghjhgjeeabImplTt
import Derived.Test.YtadcmghjhgjeeabImplLt1
namespace Go.Proofs.Ytadcmghjhgjeeab
open Go.RowKit

/-- The last free one of the first k cells. -/
def lastFr (cs : List Int) : Nat → Nat
  | 0 => 0
  | k + 1 => if nth cs k = -1 then k else lastFr cs k
theorem lastFr_yes {cs : List Int} {k : Nat} (h : nth cs k = -1) : lastFr cs (k + 1) = k := if_pos h
theorem lastFr_no {cs : List Int} {k : Nat} (h : nth cs k ≠ -1) : lastFr cs (k + 1) = lastFr cs k := if_neg h
theorem lastFr_lt {cs : List Int} : ∀ {k : Nat}, 0 < k → lastFr cs k < k
  | 0, h => by omega
  | k + 1, _ => by
    simp only [lastFr]
    split
    · omega
    · by_cases hk : 0 < k
      · have := lastFr_lt (cs := cs) hk; omega
      · obtain rfl : k = 0 := by omega
        simp [lastFr]
theorem lastFr_le {cs : List Int} (k : Nat) : lastFr cs k ≤ k := by
  by_cases h : 0 < k
  · exact Nat.le_of_lt (lastFr_lt h)
  · obtain rfl : k = 0 := by omega
    simp [lastFr]
/-- The place of a key on the street. -/
def favN (cs : List Int) (key : Int) : Nat := wayN cs.length ((lastFr cs cs.length + 1) % cs.length) (ownN cs.length key)
def streetL (cs : List Int) : List Int := (firL cs).map fun key => ((favN cs key : Nat) : Int)
def streetOf (cs : List Int) : List Int × Int × Bool := if tblB cs && (decide (1 ≤ usedN cs) && decide (usedN cs ≤ 8)) then (streetL cs, (cs.length : Int) - 1, true) else ([], 0, false)
theorem street_yes {cs : List Int} (h : tblB cs = true) (h1 : 1 ≤ usedN cs) (h8 : usedN cs ≤ 8) : streetOf cs = (streetL cs, (cs.length : Int) - 1, true) := if_pos (by simp [h, h1, h8])
theorem street_no {cs : List Int} (h : tblB cs = false) : streetOf cs = ([], 0, false) := if_neg (by simp [h])
theorem street_many {cs : List Int} (h : ¬ (1 ≤ usedN cs ∧ usedN cs ≤ 8)) : streetOf cs = ([], 0, false) := if_neg (by simp only [Bool.and_eq_true, decide_eq_true_eq]; exact fun hh => h hh.2)
theorem fav_val {n o l : Nat} (_ : o < n) (hl : l < n) : ((o : Int) - (l : Int) - 1 + 2 * (n : Int)) % (n : Int) = ((wayN n ((l + 1) % n) o : Nat) : Int) := by
  have hm := mod_two (x := l + 1) (n := n) (by omega)
  unfold wayN
  rw [Int.natCast_emod]
  by_cases h : l + 1 < n
  · rw [if_pos h] at hm
    rw [hm, show ((o + n - (l + 1) : Nat) : Int) = (o : Int) - (l : Int) - 1 + (n : Int) by omega, show (o : Int) - (l : Int) - 1 + 2 * (n : Int) = ((o : Int) - (l : Int) - 1 + (n : Int)) + (n : Int) by omega, Int.add_emod_right]
  · rw [if_neg h] at hm
    rw [hm, show ((o + n - (l + 1 - n) : Nat) : Int) = (o : Int) - (l : Int) - 1 + 2 * (n : Int) by omega]
theorem street_take {cs : List Int} {k : Nat} (h : k < (firL cs).length) : ((firL cs).take (k + 1)).map (fun key => ((favN cs key : Nat) : Int)) = ((firL cs).take k).map (fun key => ((favN cs key : Nat) : Int)) ++ [((favN cs (nth (firL cs) k) : Nat) : Int)] := by
  rw [take_succ_nth h]
  simp
theorem firGo_mem {cs : List Int} (ht : Tb cs) : ∀ f part, Sub cs part → ∀ x ∈ firGo cs f part, x ∈ cs ∧ x ≠ -1
  | 0, _, _, x, h => by simp [firGo] at h
  | f + 1, part, hs, x, h => by
    simp only [firGo] at h
    split at h
    · simp at h
    · rename_i key rest he
      have hm : key ∈ rdyL cs part := by rw [he]; simp
      obtain ⟨r1, r2, r3, r4⟩ := rdy_cell ht hs hm
      rcases List.mem_cons.1 h with rfl | h
      · exact ⟨r1, r2⟩
      · exact firGo_mem ht f _ (hs.put r1) x h
theorem firL_pos {cs : List Int} (ht : Tb cs) {x : Int} (h : x ∈ firL cs) : 0 ≤ x ∧ x ≤ 999 := by
  obtain ⟨h1, h2⟩ := firGo_mem ht _ _ (sub_empty cs) x h
  obtain ⟨f1, f2, -⟩ := findL_spec h1
  have := ht.bd _ f1
  omega
theorem firGo_len {cs : List Int} : ∀ f part, (firGo cs f part).length ≤ f
  | 0, _ => by simp [firGo]
  | f + 1, part => by
    simp only [firGo]
    split
    · simp
    · rename_i key rest he
      have := firGo_len (cs := cs) f (part.set (findL cs key) key)
      simp; omega
theorem firL_len (cs : List Int) : (firL cs).length ≤ cs.length := firGo_len _ _

set_option maxRecDepth 100000 in
set_option maxHeartbeats 4000000 in
theorem specStreet_any (a : Option Addr) (n cap : Nat) (cs : List Int) (w : World) (h : Has w a n cap cs) :
    Calls Try.prog 27 #[.agg #[.slice a n cap]] w (PostStreet w (streetOf cs)) := by
  obtain rfl := h.len
  obtain ⟨W, hW, C, hbW, hsW⟩ := boxed w (.slice a cs.length cap) 35
  have hH := h.below hbW (Nat.le_refl _)
  obtain ⟨y1, y2⟩ := id C
  by_cases hg : tblB cs = true
  · have HG := hid hg
    have ht := tb_iff.1 hg
    have h12 := ht.hi
    have hlo := ht.lo
    by_cases h8 : 1 ≤ usedN cs ∧ usedN cs ≤ 8
    · have HR := hid (street_yes hg h8.1 h8.2)
      have HIN : Hid (inB ((usedN cs : Nat) : Int) 1 8 = true) := hid (inB_iff.2 (by omega))
      have HTB := hid ht
      clear hg h8
      go_enter Try.func27, Try.ntmps27
      go_wp2_with (first | (go_at_call 52; refine (prGood_any _ _ _ _ _ hH).mono ?_; rintro e w' ⟨rfl, st⟩; rw [HG.out]; have C2 := C.below st (by omega); have hH2 := hH.below st (Nat.le_refl _); have hb2 := hbW.trans (st.mono hbW.size); have q2 := st.size; clear y1 y2 hH C; obtain ⟨z1, z2⟩ := id C2) | (go_at_call 56; refine (prMany_any _ _ _ _ _ hH2 h12).mono ?_; rintro e w' ⟨rfl, st2⟩; have q3 := st2.size; have C3 := C2.below st2 (by omega); have hH3 := hH2.below st2 (Nat.le_refl _); have hb3 := hb2.trans (st2.mono hb2.size); clear z1 z2; obtain ⟨z1, z2⟩ := id C3) | (go_at_call 41; refine (l1In_any _ _ _ _).mono ?_; rintro e w' ⟨rfl, rfl⟩; rw [HIN.out]))
      obtain ⟨wo, rfl⟩ : ∃ wo : World, wo = w' := ⟨_, rfl⟩
      have hwo : w.heap.size < wo.heap.size := by omega
      clear st st2 C2 hH2 hb2 q2 q3 hW hsW hbW
      go_loopw [6, 27] (fun l i wr => ∃ k : Nat, l = .int .i64 (lastFr cs k : Nat) ∧ i = .int .i64 k ∧ k ≤ cs.length ∧ wo = wr) (fun _ i _ => cs.length - (intOf i).toNat)
      case atStart => exact ⟨0, rfl, rfl, by omega, rfl⟩
      case round =>
        obtain ⟨k, rfl, rfl, hk, rfl⟩ := hrel
        by_cases hlt : k < cs.length
        · obtain ⟨b0, off, rfl, hbb, hcc⟩ := hH3.2.2.2.2 (by omega)
          have hck := hcc k hlt
          clear hcc
          by_cases he : nth cs k = -1
          · have hb1 : (nth cs k == -1) = true := by simp [he]
            have HL := hid (lastFr_yes he)
            clear he
            go_wp2_with fail
            go_roundw
            case rel => exact ⟨k + 1, by rw [HL.out], by go_num, by omega, trivial⟩
            case measure => simp [intOf]; omega
          · have hb1 : (nth cs k == -1) = false := by simp [he]
            have HL := hid (lastFr_no he)
            clear he
            go_wp2_with fail
            go_roundw
            case rel => exact ⟨k + 1, by rw [HL.out], by go_num, by omega, trivial⟩
            case measure => simp [intOf]; omega
        · obtain rfl : k = cs.length := by omega
          have hl := lastFr_lt (cs := cs) (k := cs.length) (by omega)
          obtain ⟨l, hlv⟩ : ∃ l, lastFr cs cs.length = l := ⟨_, rfl⟩
          rw [hlv] at hl ⊢
          have HL := hid hlv
          clear hlv
          go_wp2_with (go_at_call 53; refine (prFirst_any _ _ _ _ _ hH3 HTB.out).mono ?_; rintro e w' ⟨a1, m, cap1, rfl, own1, hb4⟩)
          obtain ⟨wk, rfl⟩ : ∃ wk : World, wk = w' := ⟨_, rfl⟩
          have hm : (firL cs).length = m := own1.len
          have hm12 : m ≤ 12 := by have := firL_len cs; omega
          have HM := hid hm
          have HK := hid own1.has
          have q4 := hb4.size
          have hb5 := hb3.trans (hb4.mono (by omega))
          clear hm own1 z1 z2 C3 hH3 hb3 hb4
          go_loopw [9, 39] (fun o i wr => ∃ (k q : Nat) (a : Option Addr) (cap : Nat), i = .int .i64 k ∧ o = .slice a q cap ∧ k ≤ m ∧ q ≤ k ∧ Own wr wk.heap.size a q cap (((firL cs).take k).map (fun key => ((favN cs key : Nat) : Int))) ∧ Below wk.heap.size wk wr) (fun _ i _ => m - (intOf i).toNat)
          case atStart => exact ⟨0, 0, none, 0, rfl, rfl, by omega, by omega, by simpa using Own.nil _ _, Below.refl _ _⟩
          case round =>
            obtain ⟨k, q, a, cap, rfl, rfl, hk, hqk, own, hb⟩ := hrel
            have hbs := hb.size
            have hK := HK.out.below hb (Nat.le_refl _)
            by_cases hlt : k < m
            · obtain ⟨b0, off, rfl, hbb, hcc⟩ := hK.2.2.2.2 (by omega)
              have hck := hcc k hlt
              have hkl : k < (firL cs).length := by rw [HM.out]; exact hlt
              have HT := hid (street_take hkl)
              obtain ⟨k0, k9⟩ := firL_pos HTB.out (nth_mem hkl)
              obtain ⟨key, hkey⟩ : ∃ key, nth (firL cs) k = key := ⟨_, rfl⟩
              rw [hkey] at hck HT k0 k9
              have ho := own_lt (n := cs.length) (key := key) (by omega)
              have hv1 := own_emod (n := cs.length) k0
              have hv2 := fav_val (n := cs.length) ho hl
              have hfv : favN cs key = wayN cs.length ((l + 1) % cs.length) (ownN cs.length key) := by unfold favN; rw [HL.out]
              rw [← hfv] at hv2
              obtain ⟨o, hov⟩ : ∃ o, ownN cs.length key = o := ⟨_, rfl⟩
              rw [hov] at hv1 hv2 ho
              obtain ⟨v, hvv⟩ : ∃ v, favN cs key = v := ⟨_, rfl⟩
              rw [hvv] at hv2 HT
              have hz : ¬ ((cs.length : Int) = 0) := by omega
              have i1 : (0 : Int) ≤ (o : Int) - (l : Int) - 1 + 2 * (cs.length : Int) := by omega
              clear hcc hkl hkey hov hvv hfv
              go_wp2_with (at_builtin; refine wpList_append_int _ rfl _ _ rfl wk.heap.size _ _ _ _ _ rfl rfl own (by omega) hbs ?_; intro a6 cap6 w6 own6 hb6)
              go_roundw
              case rel => exact ⟨k + 1, q + 1, a6, cap6, by go_num, rfl, by omega, by omega, by rw [HT.out]; exact own6, hb.trans hb6⟩
              case measure => simp [intOf]; omega
            · obtain rfl : k = m := by omega
              have HA : Hid (((firL cs).take k).map (fun key => ((favN cs key : Nat) : Int)) = streetL cs) := hid (by rw [List.take_of_length_le (Nat.le_of_eq HM.out)]; rfl)
              rw [HA.out] at own
              go_wp2_with fail
              refine bodyPost_ret (v := .tuple #[.slice a q cap, .int .i64 ((cs.length : Int) - 1), .bool true]) (by simp [results, Try.results27, go_sem]) rfl ?_
              exact ⟨_, _, _, by rw [HR.out], by rw [HR.out]; exact own.mono (by have := hb5.size; omega), hb5.trans (hb.mono hb5.size)⟩
    · have HR := hid (street_many h8)
      have HIN : Hid (inB ((usedN cs : Nat) : Int) 1 8 = false) := hid (Bool.eq_false_iff.2 fun hh => h8 (by have := inB_iff.1 hh; omega))
      clear hg
      go_enter Try.func27, Try.ntmps27
      go_wp2_with (first | (go_at_call 52; refine (prGood_any _ _ _ _ _ hH).mono ?_; rintro e w' ⟨rfl, st⟩; rw [HG.out]; have C2 := C.below st (by omega); have hH2 := hH.below st (Nat.le_refl _); have hb2 := hbW.trans (st.mono hbW.size); have q2 := st.size; clear y1 y2 hH C; obtain ⟨z1, z2⟩ := id C2) | (go_at_call 56; refine (prMany_any _ _ _ _ _ hH2 h12).mono ?_; rintro e w' ⟨rfl, st2⟩; have hb3 := hb2.trans (st2.mono hb2.size)) | (go_at_call 41; refine (l1In_any _ _ _ _).mono ?_; rintro e w' ⟨rfl, rfl⟩; rw [HIN.out]))
      refine bodyPost_ret (v := .tuple #[.slice none 0 0, .int .i64 0, .bool false]) (by simp [results, Try.results27, go_sem]) rfl ?_
      exact ⟨_, _, _, by rw [HR.out], by rw [HR.out]; exact Own.nil _ _, hb3⟩
  · have HG := hid (Bool.eq_false_iff.2 hg)
    have HR := hid (street_no (Bool.eq_false_iff.2 hg))
    clear hg
    go_enter Try.func27, Try.ntmps27
    go_wp2_with (go_at_call 52; refine (prGood_any _ _ _ _ _ hH).mono ?_; rintro e w' ⟨rfl, st⟩; rw [HG.out])
    refine bodyPost_ret (v := .tuple #[.slice none 0 0, .int .i64 0, .bool false]) (by simp [results, Try.results27, go_sem]) rfl ?_
    exact ⟨_, _, _, by rw [HR.out], by rw [HR.out]; exact Own.nil _ _, hbW.trans (st.mono hbW.size)⟩
end Go.Proofs.Ytadcmghjhgjeeab

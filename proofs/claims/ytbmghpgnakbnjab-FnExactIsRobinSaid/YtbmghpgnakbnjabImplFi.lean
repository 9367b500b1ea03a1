/- Keys put in: the program's rings of keys; TableOf. -/
import Derived.Test.YtbmghpgnakbnjabSpecIn
import Derived.Test.YtbmghpgnakbnjabCont
namespace Go.Proofs.Ytbmghpgnakbnjab
open Go.RowKit

def areB (ks : List Int) : Bool := allB ks 0 999 && diffB ks
theorem are_no1 {ks : List Int} {i : Nat} (hi : i < ks.length) (h : inB (nth ks i) 0 999 = false) : areB ks = false := by simp [areB, allB_no hi h]
theorem are_no2 {ks : List Int} {i : Nat} (hi : i < ks.length) (h : hasB (ks.take i) (nth ks i) = true) : areB ks = false := by
  have : diffB ks = false := by
    unfold diffB
    rw [List.all_eq_false]
    exact ⟨i, by simpa using hi, by simp [h]⟩
  simp [areB, this]
theorem are_yes {ks : List Int} (h1 : ∀ i, i < ks.length → inB (nth ks i) 0 999 = true ∧ hasB (ks.take i) (nth ks i) = false) : areB ks = true := by
  have h2 : allB ks 0 999 = true := by
    rw [allB_iff]
    intro x hx
    obtain ⟨i, hi, rfl⟩ := mem_nth hx
    exact inB_iff.1 (h1 i hi).1
  have h3 : diffB ks = true := by
    unfold diffB
    simp only [List.all_eq_true, List.mem_range, Bool.not_eq_true']
    exact fun i hi => (h1 i hi).2
  simp [areB, h2, h3]
theorem keysB_are {p : Int} {ks : List Int} (h1 : inB p 2 12 = true) (h2 : (ks.length : Int) < p) : keysB p ks = areB ks := by simp [keysB, areB, h1, h2]

set_option maxRecDepth 100000 in
set_option maxHeartbeats 2000000 in
theorem areKeys_any (a : Option Addr) (n cap : Nat) (ks : List Int) (w : World) (h : Has w a n cap ks) :
    Calls Try.prog 77 #[.slice a n cap] w fun e w' => e = .returned (.bool (areB ks)) ∧ w = w' := by
  obtain rfl := h.len
  have hle := h.le
  have hcap := h.2.1
  go_enter Try.func77, Try.ntmps77
  go_wp2_with fail
  go_loopw [7] (fun i wr => ∃ k : Nat, i = .int .i64 k ∧ k ≤ ks.length ∧ Hid (∀ j, j < k → inB (nth ks j) 0 999 = true ∧ hasB (ks.take j) (nth ks j) = false) ∧ w = wr) (fun i _ => ks.length - (intOf i).toNat)
  case atStart => exact ⟨0, rfl, by omega, hid (fun j hj => by omega), rfl⟩
  case round =>
    obtain ⟨k, rfl, hk, HA, rfl⟩ := hrel
    by_cases hlt : k < ks.length
    · obtain ⟨b, off, rfl, hbb, hcc⟩ := h.2.2.2.2 (by omega)
      have hck := hcc k hlt
      clear hcc
      have hT := h.take (k := k) (by omega)
      have hki : (k : Int) ≤ (cap : Int) := by omega
      by_cases hb : inB (nth ks k) 0 999 = true
      · have HB := hid hb
        clear hb
        by_cases hh : hasB (ks.take k) (nth ks k) = true
        · have HN : Hid (areB ks = false) := hid (are_no2 hlt hh)
          have HH := hid hh
          clear hh
          go_wp2_with (first | (go_at_call 68; refine (isKey_any _ _).mono ?_; rintro e w' ⟨rfl, rfl⟩; rw [HB.out]) | (go_at_call 67; refine (contains5_any _ _ _ _ _ _ hT).mono ?_; rintro e w' ⟨rfl, rfl⟩; rw [HH.out]))
          go_ret
          exact ⟨ret_bool (by rw [HN.out]), rfl⟩
        · have HH := hid (Bool.eq_false_iff.2 hh)
          clear hh
          go_wp2_with (first | (go_at_call 68; refine (isKey_any _ _).mono ?_; rintro e w' ⟨rfl, rfl⟩; rw [HB.out]) | (go_at_call 67; refine (contains5_any _ _ _ _ _ _ hT).mono ?_; rintro e w' ⟨rfl, rfl⟩; rw [HH.out]))
          go_roundw
          case rel => exact ⟨k + 1, by go_num, by omega, hid (fun j hj => by rcases Nat.lt_succ_iff_lt_or_eq.1 hj with h1 | rfl; exact HA.out j h1; exact ⟨HB.out, HH.out⟩), trivial⟩
          case measure => simp [intOf]; omega
      · have HB := hid (Bool.eq_false_iff.2 hb)
        have HN : Hid (areB ks = false) := hid (are_no1 hlt HB.out)
        clear hb
        go_wp2_with (go_at_call 68; refine (isKey_any _ _).mono ?_; rintro e w' ⟨rfl, rfl⟩; rw [HB.out])
        go_ret
        exact ⟨ret_bool (by rw [HN.out]), rfl⟩
    · obtain rfl : k = ks.length := by omega
      have HY : Hid (areB ks = true) := hid (are_yes HA.out)
      go_wp2_with fail
      go_ret
      exact ⟨ret_bool (by rw [HY.out]), rfl⟩

/-- A way to put keys in, as the program's functions have it. -/
structure WayIn (F : Nat) (step : List Int → Int → List Int) : Prop where
  ent : ∀ args w, (callFunc F args).run Try.prog w = .ok (.enter F args) w
  len : ∀ cs key, (step cs key).length = cs.length
  pt : ∀ n cs done x, Pt n cs done → done.length < n → x ∉ cs → x ≠ -1 → Pt n (step cs x) (done ++ [x])
  call : ∀ cs key q w, Rg cs → 0 ≤ key → freeAt cs q → key ∉ cs → (∀ i, i < cs.length → -1 ≤ nth cs i) → Calls Try.prog F #[.agg (ivals (ringL cs)), .int .i64 key] w fun e w' => e = .returned (.agg (ivals (ringL (step cs key)))) ∧ Below w.heap.size w w'
/-- What keys make. -/
def fillL (step : List Int → Int → List Int) (n : Nat) (ks : List Int) : List Int := ks.foldl step (emptyL n)
theorem fillL_succ {step : List Int → Int → List Int} {n : Nat} {ks : List Int} {k : Nat} (h : k < ks.length) : fillL step n (ks.take (k + 1)) = step (fillL step n (ks.take k)) (nth ks k) := by
  rw [take_succ_nth h]
  simp [fillL]
theorem pt_fill {F : Nat} {step : List Int → Int → List Int} (hw : WayIn F step) {n : Nat} {keys : List Int} (h : keysB n keys = true) : ∀ k, k ≤ keys.length → Pt n (fillL step n (keys.take k)) (keys.take k)
  | 0, _ => by simpa [fillL] using pt_empty n
  | k + 1, hk => by
    obtain ⟨h1, h2, h3, h4⟩ := keysB_iff.1 h
    rw [fillL_succ (by omega), take_succ_nth (by omega)]
    refine hw.pt _ _ _ _ (pt_fill hw h k (by omega)) (by simp; omega) (pt_new h (by omega) (pt_fill hw h k (by omega))) ?_
    have := h3 _ (nth_mem (show k < keys.length by omega))
    omega
def filledOf (step : List Int → Int → List Int) (p : Int) (ks : List Int) : List Int × Bool := if keysB p ks then (ringL (fillL step p.toNat ks), true) else (zeroR, false)

set_option maxRecDepth 100000 in
set_option maxHeartbeats 4000000 in
theorem filled_any (F : Nat) (step : List Int → Int → List Int) (hw : WayIn F step) (p : Int) (a : Option Addr) (n cap : Nat) (ks : List Int) (w : World) (h : Has w a n cap ks) :
    Calls Try.prog 54 #[.int .i64 p, .slice a n cap, .func (.func F) #[] #[]] w fun e w' => e = .returned (.tuple #[.agg (ivals (filledOf step p ks).1), .bool (filledOf step p ks).2]) ∧ Below w.heap.size w w' := by
  obtain rfl := h.len
  have hle := h.le
  obtain ⟨W, hW⟩ : ∃ W, w.alloc (.cells #[.int .i64 0, .int .i64 0, .int .i64 0, .int .i64 0, .int .i64 0, .int .i64 0, .int .i64 0, .int .i64 0, .int .i64 0, .int .i64 0, .int .i64 0, .int .i64 0, .int .i64 0] 50) = W := ⟨_, rfl⟩
  have Z := ringAt_zero w
  have hbW := (Below.refl w.heap.size w).alloc (Nat.le_refl _) (.cells #[.int .i64 0, .int .i64 0, .int .i64 0, .int .i64 0, .int .i64 0, .int .i64 0, .int .i64 0, .int .i64 0, .int .i64 0, .int .i64 0, .int .i64 0, .int .i64 0, .int .i64 0] 50)
  have hsW : (w.alloc (.cells #[.int .i64 0, .int .i64 0, .int .i64 0, .int .i64 0, .int .i64 0, .int .i64 0, .int .i64 0, .int .i64 0, .int .i64 0, .int .i64 0, .int .i64 0, .int .i64 0, .int .i64 0] 50)).heap.size = w.heap.size + 1 := by simp
  rw [hW] at Z hbW hsW
  have hH := h.below hbW (Nat.le_refl _)
  by_cases h1 : inB p 2 12 = true
  · have h12 := inB_iff.1 h1
    obtain ⟨m, rfl⟩ : ∃ m : Nat, p = (m : Int) := ⟨p.toNat, by omega⟩
    have HNR := hid (newOf_emptyL h1)
    rw [Int.toNat_natCast] at HNR
    have hrg := rg_empty (m := m) (by omega) (by omega)
    have HV := hid hrg.all
    have H1 := hid h1
    clear h1
    go_enter Try.func54, Try.ntmps54
    go_wp2_with fail
    refine (newRing_any _ _).mono ?_
    rintro e w1 ⟨rfl, st⟩
    rw [HNR.out]
    have s1 := st.size
    obtain ⟨V, hV, RV, hbV, hsV⟩ := ring_stored w1 HV.out
    have Zn := ringAt_zero w1
    have Z2 := (Z.below st Z.lt).below hbV (by omega)
    have hH2 := (hH.below st (Nat.le_refl _)).below hbV (Nat.le_refl _)
    have hb2 := (hbW.trans (st.mono (by omega))).trans (hbV.mono (by omega))
    clear st hbV hbW hW Z hH
    by_cases h2 : (ks.length : Int) < (m : Int)
    · by_cases h3 : areB ks = true
      · have hge : ¬ m ≤ ks.length := by omega
        have HK : Hid (keysB (m : Int) ks = true) := hid (by rw [keysB_are H1.out h2]; exact h3)
        have H3 := hid h3
        have HB : Hid (∀ x ∈ ks, 0 ≤ x ∧ x ≤ 999) := hid (keysB_iff.1 HK.out).2.2.1
        clear h3
        go_wp2_with (first | (refine wpList_store_ring rfl _ _ rfl _ _ _ rfl rfl Zn HV.out ?_) | (go_at_call 77; refine (areKeys_any _ _ _ _ _ hH2).mono ?_; rintro e w' ⟨rfl, rfl⟩; rw [H3.out]))
        clear hV Zn
        go_loopw [33] (fun i wr => ∃ k : Nat, i = .int .i64 k ∧ k ≤ ks.length ∧ RingAt wr w1.heap.size (ringL (fillL step m (ks.take k))) ∧ RingAt wr w.heap.size zeroR ∧ Has wr a ks.length cap ks ∧ Below w.heap.size w wr) (fun i _ => ks.length - (intOf i).toNat)
        case atStart => exact ⟨0, rfl, by omega, RV, Z2, hH2, hb2⟩
        case round =>
          clear RV Z2 hH2 hb2
          obtain ⟨k, rfl, hk, R, Z, hH, hb⟩ := hrel
          have hPt := pt_fill hw HK.out k hk
          have hlen := hPt.len
          have hR := R.lt
          by_cases hlt : k < ks.length
          · obtain ⟨b, off, rfl, hbb, hcc⟩ := hH.2.2.2.2 (by omega)
            have hck := hcc k hlt
            clear hcc
            have h0 : 0 ≤ nth ks k := (HB.out _ (nth_mem hlt)).1
            obtain ⟨q, hq⟩ := hPt.free (by rw [List.length_take]; omega)
            have hnew := pt_new HK.out hlt hPt
            have hbd : ∀ i, i < (fillL step m (ks.take k)).length → -1 ≤ nth (fillL step m (ks.take k)) i := fun i hi => by
              rcases hPt.from_ _ (nth_mem hi) with e | e
              · omega
              · have := HB.out _ (List.mem_of_mem_take e); omega
            have hrg2 : Rg (fillL step m (ks.take k)) := ⟨by omega, by omega⟩
            have HC : Hid (∀ w, Calls Try.prog F #[.agg (ivals (ringL (fillL step m (ks.take k)))), .int .i64 (nth ks k)] w fun e w' => e = .returned (.agg (ivals (ringL (step (fillL step m (ks.take k)) (nth ks k))))) ∧ Below w.heap.size w w') := hid (fun w => hw.call _ _ q w hrg2 h0 hq hnew hbd)
            have HS := hid (fillL_succ (step := step) (n := m) hlt)
            have HL : Hid ((ringL (step (fillL step m (ks.take k)) (nth ks k))).length = 13) := hid (by
              rw [← HS.out]
              exact (Rg.mk (by rw [(pt_fill hw HK.out (k + 1) hlt).len]; omega) (by rw [(pt_fill hw HK.out (k + 1) hlt).len]; omega)).all)
            have ent := hw.ent
            clear hPt hq hnew hbd
            go_wp2_with (first | (refine wpList_load_ring rfl _ rfl _ _ rfl R ?_))
            refine (HC.out _).mono ?_
            rintro e w2 ⟨rfl, st⟩
            have R2 := R.below st R.lt
            have Z2 := Z.below st Z.lt
            have hH2 := hH.below st (Nat.le_refl _)
            have hb2 := hb.trans (st.mono hb.size)
            have hs2 := st.size
            clear st R Z hH hb ent
            go_wp2_with (refine wpList_store_ring rfl _ _ rfl _ _ _ rfl rfl R2 HL.out ?_)
            go_roundw
            case rel => exact ⟨k + 1, by go_num, by omega, by rw [HS.out]; exact R2.row HL.out, Z2.rowOther (by omega) _, h.beyond (below_row hb2 (by omega) _), below_row hb2 (by omega) _⟩
            case measure => simp [intOf]; omega
          · obtain rfl : k = ks.length := by omega
            rw [List.take_length] at R hlen
            have HR : Hid (filledOf step (m : Int) ks = (ringL (fillL step m ks), true)) := hid (by unfold filledOf; rw [if_pos HK.out, Int.toNat_natCast])
            have HL : Hid ((ringL (fillL step m ks)).length = 13) := hid (Rg.mk (by omega) (by omega)).all
            go_wp2_with (first | (refine wpList_load_ring rfl _ rfl _ _ rfl R ?_) | (refine wpList_store_ring rfl _ _ rfl _ _ _ rfl rfl Z HL.out ?_))
            refine bodyPost_ret (v := .tuple #[.agg (ivals (ringL (fillL step m ks))), .bool true]) (results_ring2 rfl _ _ _ _ _ rfl rfl (Z.row HL.out)) rfl ⟨by rw [HR.out], below_row hb (Nat.le_refl _) _⟩
      · have H3 := hid (Bool.eq_false_iff.2 h3)
        have HR : Hid (filledOf step (m : Int) ks = (zeroR, false)) := hid (by unfold filledOf; rw [if_neg]; rw [keysB_are H1.out h2]; exact h3)
        clear h3
        go_wp2_with (first | (refine wpList_store_ring rfl _ _ rfl _ _ _ rfl rfl Zn HV.out ?_) | (refine wpList_store_ring rfl _ _ rfl _ _ zeroR rfl rfl Z2 rfl ?_) | (go_at_call 77; refine (areKeys_any _ _ _ _ _ hH2).mono ?_; rintro e w' ⟨rfl, rfl⟩; rw [H3.out]))
        refine bodyPost_ret (v := .tuple #[.agg (ivals zeroR), .bool false]) (results_ring2 rfl _ _ _ _ _ rfl rfl (Z2.row (ys := zeroR) rfl)) rfl ⟨by rw [HR.out], below_row hb2 (Nat.le_refl _) _⟩
    · have HR : Hid (filledOf step (m : Int) ks = (zeroR, false)) := hid (by unfold filledOf; rw [keys_no2 h2]; rfl)
      go_wp2_with (first | (refine wpList_store_ring rfl _ _ rfl _ _ _ rfl rfl Zn HV.out ?_) | (refine wpList_store_ring rfl _ _ rfl _ _ zeroR rfl rfl Z2 rfl ?_))
      refine bodyPost_ret (v := .tuple #[.agg (ivals zeroR), .bool false]) (results_ring2 rfl _ _ _ _ _ rfl rfl (Z2.row (ys := zeroR) rfl)) rfl ⟨by rw [HR.out], below_row hb2 (Nat.le_refl _) _⟩
  · have HNR := hid (newOf_no (Bool.eq_false_iff.2 h1))
    have HR : Hid (filledOf step p ks = (zeroR, false)) := hid (by unfold filledOf; rw [keys_no1 (Bool.eq_false_iff.2 h1)]; rfl)
    clear h1
    go_enter Try.func54, Try.ntmps54
    go_wp2_with fail
    refine (newRing_any _ _).mono ?_
    rintro e w1 ⟨rfl, st⟩
    rw [HNR.out]
    have s1 := st.size
    obtain ⟨V, hV, RV, hbV, hsV⟩ := ring_stored w1 (xs := zeroR) rfl
    have Zn := ringAt_zero w1
    have Z2 := (Z.below st Z.lt).below hbV (by omega)
    have hb2 := (hbW.trans (st.mono (by omega))).trans (hbV.mono (by omega))
    clear st hbV hbW hW Z hH
    go_wp2_with (first | (refine wpList_store_ring rfl _ _ rfl _ _ _ rfl rfl Zn rfl ?_) | (refine wpList_store_ring rfl _ _ rfl _ _ zeroR rfl rfl Z2 rfl ?_))
    refine bodyPost_ret (v := .tuple #[.agg (ivals zeroR), .bool false]) (results_ring2 rfl _ _ _ _ _ rfl rfl (Z2.row (ys := zeroR) rfl)) rfl ⟨by rw [HR.out], below_row hb2 (Nat.le_refl _) _⟩

/-- A key put in as the program does it. -/
def insP (cs : List Int) (key : Int) : List Int := cs.set (srch cs key) key
theorem insP_insL {cs : List Int} {key : Int} (h : key ∉ cs) (hf : ∃ q, freeAt cs q) : insP cs key = insL cs key := by unfold insP insL; rw [srch_slot h hf]
theorem wayIn_with : WayIn 74 insP where
  ent := fun args w => by go_simp
  len := fun cs key => by simp [insP]
  pt := fun n cs done x hp hl hn hx => by rw [insP_insL hn (hp.free hl)]; exact hp.ins hl hx
  call := fun cs key q w hr h0 hq _ _ => with_any cs key q w hr h0 hq
theorem fill_tab {n : Nat} {ks : List Int} (h : keysB n ks = true) : ∀ k, k ≤ ks.length → fillL insP n (ks.take k) = tabL n (ks.take k)
  | 0, _ => by simp [fillL, tabL]
  | k + 1, hk => by
    have hp := pt_tab h k (by omega)
    obtain ⟨h1, h2, h3, h4⟩ := keysB_iff.1 h
    rw [fillL_succ (by omega), tabL_succ (by omega), fill_tab h k (by omega), insP_insL (pt_new h (by omega) hp) (hp.free (by rw [List.length_take]; omega))]
theorem filled_tab {n : Nat} {ks : List Int} (h : keysB n ks = true) : filledOf insP n ks = (ringL (tabL n ks), true) := by
  have := fill_tab h ks.length (Nat.le_refl _)
  rw [List.take_length] at this
  unfold filledOf
  rw [if_pos h, Int.toNat_natCast, this]
theorem filled_no {step : List Int → Int → List Int} {n : Int} {ks : List Int} (h : keysB n ks = false) : filledOf step n ks = (zeroR, false) := by unfold filledOf; rw [h]; rfl

theorem length_tabL {n : Nat} {ks : List Int} (h : keysB n ks = true) : (tabL n ks).length = n := by
  have := (pt_tab h ks.length (Nat.le_refl _)).len
  rwa [List.take_length] at this
end Go.Proofs.Ytbmghpgnakbnjab

/- The region of a point: the model's side. -/
import Derived.Test.YtakadjhbomggbabImplOr
import Derived.Test.YtakadjhbomggbabDraw2
import Derived.Test.YtakadjhbomggbabSpecO
import Derived.Test.YtakadjhbomggbabSpecD
import Derived.Test.YtakadjhbomggbabApp2
namespace Go.Proofs.Ytakadjhbomggbab
open Go.RowKit Go.Sort

set_option maxRecDepth 100000 in
set_option maxHeartbeats 4000000 in
theorem reSorted_any (a : Option Addr) (n cap : Nat) (xs : List Int) (w : World) (h : Has w a n cap xs) (h8 : n ≤ 8) :
    Calls Try.prog 74 #[.slice a n cap] w fun e w' => ∃ b c, e = .returned (.slice b n c) ∧ Own w' w.heap.size b n c (ordX xs) ∧ Below w.heap.size w w' := by
  have HL := hid h.len
  go_enter Try.func74, Try.ntmps74
  go_wp2_with fail
  go_loopw [3, 9] (fun o i wr => ∃ (j : Nat) (a' : Option Addr) (cap' : Nat) (out : List Int), j ≤ n ∧ i = .int .i64 (j : Int) ∧ o = .slice a' j cap' ∧ Own wr w.heap.size a' j cap' out ∧ out = ordXTo xs j ∧ Below w.heap.size w wr ∧ w.heap.size ≤ wr.heap.size) (fun _ i _ => n - (intOf i).toNat)
  case atStart => exact ⟨0, none, 0, [], by omega, rfl, rfl, Own.nil _ _, rfl, Below.refl _ _, Nat.le_refl _⟩
  case round =>
    obtain ⟨wo, rfl⟩ : ∃ wo : World, wo = wr := ⟨_, rfl⟩
    obtain ⟨j, a', cap', out, hj, rfl, rfl, hown, hout, hB, hsz⟩ := hrel
    have HOUT := hid hout
    clear hout
    by_cases hlt : j < n
    · have HN := hid (fun (k : Nat) (hk : k < j) => (show ∃ c : Nat, nth out k = (c : Int) ∧ c < j from by
        have hm : nth out k ∈ out := nth_mem (by rw [HOUT.out, length_ordXTo]; exact hk)
        have hm2 := (ordXTo_perm xs j).subset (HOUT.out ▸ hm)
        unfold upto at hm2
        obtain ⟨c, hc, e⟩ := List.mem_map.1 hm2
        exact ⟨c, by rw [HOUT.out]; exact e.symm, List.mem_range.1 hc⟩))
      have HLO := hid hown.len
      obtain ⟨bx, ox, rfl, hbx, hcx⟩ := h.2.2.2.2 (by omega)
      have HCX := hid (fun (c : Nat) (hc : c < n) => (hB.cell (p := ⟨bx, ox + c, none⟩) hbx).trans (hcx c hc))
      clear hcx
      go_wp2_with fail
      go_loopw [5] (fun i wr => ∃ k : Nat, k ≤ j ∧ i = .int .i64 (k : Int) ∧ Hid (∀ t, t < k → nth xs j < nth xs (nth out t).toNat) ∧ Quiet wo wr) (fun i _ => j - (intOf i).toNat)
      case atStart => exact ⟨0, Nat.zero_le _, rfl, hid (fun t ht => by omega), ⟨0, rfl⟩⟩
      case round =>
        obtain ⟨k, hk, rfl, HG, q0, hq0⟩ := hrel
        subst hq0
        have xj := HCX.out j hlt
        by_cases hkj : k < j
        · obtain ⟨c, e1, c1⟩ := HN.out k hkj
          obtain ⟨go, rfl, r1, r2, r3, r4⟩ := hown.opened (by omega)
          have ok1 := r3 k hkj
          rw [e1] at ok1
          have HE := hid e1
          have xk := HCX.out c (by omega)
          have hki : (k : Int) < (j : Int) := by omega
          have hci : (c : Int) < (n : Int) := by omega
          have hji : (j : Int) < (n : Int) := by omega
          have hkd : decide ((k : Int) < (j : Int)) = true := decide_eq_true hki
          have hk0 : (0 : Int) ≤ (k : Int) := by omega
          have hc0 : (0 : Int) ≤ (c : Int) := by omega
          have hj0 : (0 : Int) ≤ (j : Int) := by omega
          clear r3 r4 e1
          by_cases hgt : nth xs j < nth xs c
          · have HG2 := hid (fun (t : Nat) (ht : t < k + 1) => (show nth xs j < nth xs (nth out t).toNat from by
              rcases Nat.lt_succ_iff_lt_or_eq.1 ht with h1 | rfl
              · exact HG.out t h1
              · rw [HE.out, Int.toNat_natCast]; exact hgt))
            have hgd : decide (nth xs j < nth xs c) = true := decide_eq_true hgt
            generalize nth xs j = u at *
            generalize nth xs c = v at *
            go_wp2_with fail
            go_quiet (fail)
            go_wp2_with fail
            go_roundw
            case rel => exact ⟨k + 1, by omega, by go_num, HG2, ⟨_, rfl⟩⟩
            case measure => simp [intOf]; omega
          · have HAH := hid (ahead_go (xs := xs) (out := out) (v := nth xs j) (k := k) HG.out (by rw [HLO.out]; exact hkj) (by rw [HE.out, Int.toNat_natCast]; exact hgt))
            have HIX : Hid (insX xs out j = out.take k ++ [(j : Int)] ++ out.drop k) := hid (by unfold insX; rw [HAH.out])
            have hgd : decide (nth xs j < nth xs c) = false := decide_eq_false hgt
            clear HG hgt
            generalize nth xs j = u at *
            generalize nth xs c = v at *
            go_wp2_with fail
            go_quiet (fail)
            clear xj xk ok1
            have st6 := below_drewN (below_drewN (Below.refl wo.heap.size wo) q0) nq
            replace hown := hown.below st6 (Nat.le_refl _)
            replace hB := hB.trans (st6.mono hsz)
            replace hsz := Nat.le_trans hsz st6.size
            clear st6
            generalize (wo.drewN q0).drewN nq = w6 at *
            have HA := hown.has
            have hkc : j ≤ cap' := HA.2.1
            have hg2 : go < w6.heap.size := by have := hown.lt _ rfl; simpa using this
            have hcj : ¬ cap' = k := by omega
            go_wp2_with fail
            refine (l1Own_any _ _ _ _ _ (HA.take (k := k) (by omega))).mono ?_
            rintro e w2 ⟨a2, cap2, rfl, hown2, hb2⟩
            have hd2 := (HA.drop (k := k) (by omega)).below hb2 (Nat.le_refl _)
            rw [Nat.zero_add] at hd2
            have hblk : ∀ p, (some ⟨go, k, none⟩ : Option Addr) = some p → p.block < w6.heap.size := fun p hp => by cases hp; exact hg2
            have HBK := hid hblk
            clear hblk
            go_wp2_with (first | (at_builtin; refine wpList_append_int _ rfl _ _ rfl w6.heap.size _ _ _ _ _ rfl rfl hown2 (by omega) hb2.size ?_; intro a3 cap3 w3 hown3 hb3) | (at_builtin; refine wpList_append_ints _ rfl _ _ rfl w6.heap.size _ _ _ _ _ _ _ _ rfl rfl hown3 (hd2.belowB hb3 HBK.out) (by omega) (Nat.le_trans hb2.size hb3.size) ?_; intro a4 n4 cap4 w4 hn4 hown4 hb4))
            clear hd2 HBK
            have hbb := (hb2.trans hb3).trans hb4
            have hown5 : Own w4 w.heap.size a4 (j + 1) cap4 (insX xs out j) := (hown4.mono hsz).relen (by omega) (by rw [HIX.out])
            have hn5 : n4 = j + 1 := by omega
            clear hown4 hown3 hown2 hb2 hb3 hb4 hn4
            go_roundw
            case rel => exact ⟨j + 1, a4, cap4, _, by omega, by go_num, slice_len (by omega), hown5, by rw [HOUT.out]; rfl, hB.trans (hbb.mono hsz), by have := hbb.size; omega⟩
            case measure => simp [intOf]; omega
        · obtain rfl : k = j := by omega
          have HAH := hid (ahead_all (xs := xs) (out := out) (v := nth xs k) (fun t ht => HG.out t (by rw [HLO.out] at ht; exact ht)))
          have HIX : Hid (insX xs out k = out.take k ++ [(k : Int)] ++ out.drop k) := hid (by unfold insX; rw [HAH.out, HLO.out])
          have hkd : decide ((k : Int) < (k : Int)) = false := by simp
          clear HG
          generalize nth xs k = u at *
          go_wp2_with fail
          go_quiet (fail)
          clear xj
          have st6 := below_drewN (below_drewN (Below.refl wo.heap.size wo) q0) nq
          replace hown := hown.below st6 (Nat.le_refl _)
          replace hB := hB.trans (st6.mono hsz)
          replace hsz := Nat.le_trans hsz st6.size
          clear st6
          generalize (wo.drewN q0).drewN nq = w6 at *
          cases a' with
          | none =>
            obtain ⟨hk1, hcap1, hnil⟩ := hown.noneOf
            have hk0 : k ≤ 0 := by omega
            have hcap0 : cap' ≤ 0 := by omega
            subst hnil
            obtain rfl : k = 0 := by omega
            clear hk1 hcap1
            go_wp2_with fail
            refine (l1Own_any _ _ _ _ _ (Has.empty none (Nat.le_refl _) (Nat.le_refl _))).mono ?_
            rintro e w2 ⟨a2, cap2, rfl, hown2, hb2⟩
            go_wp2_with (first | (at_builtin; refine wpList_append_int _ rfl _ _ rfl w6.heap.size _ _ _ _ _ rfl rfl hown2 (by omega) hb2.size ?_; intro a3 cap3 w3 hown3 hb3) | (at_builtin; refine wpList_append_ints _ rfl _ _ rfl w6.heap.size _ none _ _ _ _ _ [] rfl rfl hown3 (Has.empty none (by omega) (by omega)) (by omega) (Nat.le_trans hb2.size hb3.size) ?_; intro a4 n4 cap4 w4 hn4 hown4 hb4))
            have hbb := (hb2.trans hb3).trans hb4
            have hown5 : Own w4 w.heap.size a4 (0 + 1) cap4 (insX xs [] 0) := (hown4.mono hsz).relen (by omega) (by rw [HIX.out]; simp)
            have hn5 : n4 = 0 + 1 := by omega
            clear hown4 hown3 hown2 hb2 hb3 hb4 hn4
            go_roundw
            case rel => exact ⟨0 + 1, a4, cap4, _, by omega, by go_num, slice_len (by omega), hown5, by rw [HOUT.out]; rfl, hB.trans (hbb.mono hsz), by have := hbb.size; omega⟩
            case measure => simp [intOf]; omega
          | some pp =>
            obtain ⟨gg, rfl, hg1, hg2, hg3, hg4, hkc⟩ := hown.someOf
            have HA := hown.has
            clear hg3 hg4
            by_cases hcj : cap' = k
            · subst hcj
              have hmax : 0 ≤ maxLen := by unfold maxLen; omega
              have HMX := hid hmax
              clear hmax
              go_wp2_with fail
              refine (l1Own_any _ _ _ _ _ (HA.take (k := cap') (by omega))).mono ?_
              rintro e w2 ⟨a2, cap2, rfl, hown2, hb2⟩
              go_wp2_with (first | (at_builtin; refine wpList_append_int _ rfl _ _ rfl w6.heap.size _ _ _ _ _ rfl rfl hown2 (by omega) hb2.size ?_; intro a3 cap3 w3 hown3 hb3) | (at_builtin; refine wpList_append_ints _ rfl _ _ rfl w6.heap.size _ _ _ _ _ _ _ [] rfl rfl hown3 (Has.nilAt _ (by unfold maxLen; omega)) (by omega) (Nat.le_trans hb2.size hb3.size) ?_; intro a4 n4 cap4 w4 hn4 hown4 hb4))
              have hbb := (hb2.trans hb3).trans hb4
              have hown5 : Own w4 w.heap.size a4 (cap' + 1) cap4 (insX xs out cap') := (hown4.mono hsz).relen (by omega) (by rw [HIX.out, List.drop_eq_nil_of_le (by rw [HLO.out]; exact Nat.le_refl _)])
              have hn5 : n4 = cap' + 1 := by omega
              clear hown4 hown3 hown2 hb2 hb3 hb4 hn4
              go_roundw
              case rel => exact ⟨cap' + 1, a4, cap4, _, by omega, by go_num, slice_len (by omega), hown5, by rw [HOUT.out]; rfl, hB.trans (hbb.mono hsz), by have := hbb.size; omega⟩
              case measure => simp [intOf]; omega
            · skip
              have hmax : cap' - k ≤ maxLen := by have := HA.2.2.1; omega
              have HMX := hid hmax
              clear hmax
              go_wp2_with fail
              refine (l1Own_any _ _ _ _ _ (HA.take (k := k) (by omega))).mono ?_
              rintro e w2 ⟨a2, cap2, rfl, hown2, hb2⟩
              go_wp2_with (first | (at_builtin; refine wpList_append_int _ rfl _ _ rfl w6.heap.size _ _ _ _ _ rfl rfl hown2 (by omega) hb2.size ?_; intro a3 cap3 w3 hown3 hb3) | (at_builtin; refine wpList_append_ints _ rfl _ _ rfl w6.heap.size _ _ _ _ _ _ _ [] rfl rfl hown3 (Has.nilAt _ HMX.out) (by omega) (Nat.le_trans hb2.size hb3.size) ?_; intro a4 n4 cap4 w4 hn4 hown4 hb4))
              have hbb := (hb2.trans hb3).trans hb4
              have hown5 : Own w4 w.heap.size a4 (k + 1) cap4 (insX xs out k) := (hown4.mono hsz).relen (by omega) (by rw [HIX.out, List.drop_eq_nil_of_le (by rw [HLO.out]; exact Nat.le_refl _)])
              have hn5 : n4 = k + 1 := by omega
              clear hown4 hown3 hown2 hb2 hb3 hb4 hn4
              go_roundw
              case rel => exact ⟨k + 1, a4, cap4, _, by omega, by go_num, slice_len (by omega), hown5, by rw [HOUT.out]; rfl, hB.trans (hbb.mono hsz), by have := hbb.size; omega⟩
              case measure => simp [intOf]; omega
    · obtain rfl : j = n := by omega
      go_wp2_with fail
      go_ret
      exact ⟨_, _, rfl, by rw [ordX, HL.out, ← HOUT.out]; exact hown, hB⟩

set_option maxRecDepth 100000 in
set_option maxHeartbeats 4000000 in
theorem reOf_any (a : Option Addr) (n cap : Nat) (xs : List Int) (w : World) (h : Has w a n cap xs) (hp : pointB xs = true) :
    Calls Try.prog 46 #[.slice a n cap] w fun e w' => ∃ b m c d k f, e = .returned (.agg #[.slice b m c, .slice d k f]) ∧ Own w' w.heap.size b m c (ordX xs) ∧ Own w' w.heap.size d k f (farX xs (ordX xs)) ∧ Apart2 b d ∧ Below w.heap.size w w' := by
  obtain ⟨h8, hbd, hd⟩ := point_facts hp h.len
  have HL := h.len
  have hbW : Below w.heap.size w (w.alloc (.cells #[.slice none 0 0, .slice none 0 0] 24)) := (Below.refl _ w).alloc (Nat.le_refl _) _
  have BR := boxAt_new w (.slice none 0 0) (.slice none 0 0) 24
  clear hp hd
  go_enter Try.func46, Try.ntmps46
  go_wp2_with fail
  have hsz : (w.alloc (.cells #[.slice none 0 0, .slice none 0 0] 24)).heap.size = w.heap.size + 1 := by simp
  generalize w.alloc (.cells #[.slice none 0 0, .slice none 0 0] 24) = W at *
  refine (reSorted_any _ _ _ _ _ (h.below hbW (Nat.le_refl _)) h8).mono ?_
  rintro e w1 ⟨ao, co, rfl, oo, st⟩
  have hs1 := st.size
  rw [hsz] at oo st hs1
  replace BR := BR.below st (by omega)
  replace hbW := hbW.trans (st.mono (by omega))
  clear st
  have hlo := oo.lt
  have hbV : Below w1.heap.size w1 (w1.alloc (.cells #[.slice ao n co, .slice none 0 0] 24)) := (Below.refl _ _).alloc (Nat.le_refl _) _
  have BX := boxAt_new w1 (.slice ao n co) (.slice none 0 0) 24
  have HOL : (ordX xs).length = n := by unfold ordX; rw [length_ordXTo, HL]
  have HN := hid (fun k (hk : k < n) => ordX_nth (xs := xs) (k := k) (by omega))
  have HBD := hid hbd
  have HL2 := hid HL
  have HOL2 := hid HOL
  clear hbd HOL HL
  generalize hos : ordX xs = os at *
  have HOS := hid hos
  clear hos
  obtain ⟨x1, x2, x3, x4⟩ := id BX
  go_wp2_with fail
  clear x1 x2 x3 x4
  have hsV : (w1.alloc (.cells #[.slice ao n co, .slice none 0 0] 24)).heap.size = w1.heap.size + 1 := by simp
  generalize w1.alloc (.cells #[.slice ao n co, .slice none 0 0] 24) = V at *
  replace oo := oo.below hbV (Nat.le_refl _)
  replace BR := BR.below hbV (by omega)
  replace hbW := hbW.trans (hbV.mono (by omega))
  clear hbV
  generalize w1.heap.size = kx at *
  go_loopw [4, 15] (fun l i wr => ∃ (p : Nat) (af : Option Addr) (cf : Nat), p ≤ n ∧ i = .int .i64 (p : Int) ∧ l = .int .i64 (fxAt xs os p : Int) ∧ Own wr (w.heap.size + 1) ao n co os ∧ Own wr (kx + 1) af p cf (farXTo xs os p) ∧ BoxAt wr kx (.slice ao n co) (.slice af p cf) ∧ BoxAt wr w.heap.size (.slice none 0 0) (.slice none 0 0) ∧ Below w.heap.size w wr ∧ kx + 1 ≤ wr.heap.size) (fun _ i _ => n - (intOf i).toNat)
  case atStart => exact ⟨0, none, 0, Nat.zero_le _, rfl, rfl, oo, Own.nil _ _, BX, BR, hbW, by omega⟩
  case round =>
    obtain ⟨wo, rfl⟩ : ∃ wo : World, wo = wr := ⟨_, rfl⟩
    clear oo BX BR hbW hsV
    obtain ⟨p, af, cf, hpn, rfl, rfl, oo, of, BX, BR, hb, hsw⟩ := hrel
    by_cases hlt : p < n
    · obtain ⟨cp, e1, c1⟩ := HN.out p hlt
      rw [HL2.out] at c1
      have HE1 := hid e1
      obtain ⟨go, rfl, q1, q2, q3, q4⟩ := oo.opened (by omega)
      have k1 := q3 p hlt
      rw [e1] at k1
      have hpc : p ≤ co := by have := oo.has.2.1; omega
      have hcm := oo.has.2.2.1
      have hFB := fxAt_le xs os p
      have HS := hid (show fxAt xs os (p + 1) = fxIn xs os (nth os p) (fxAt xs os p) p from rfl)
      have HFS := hid (farXTo_succ xs os p)
      obtain ⟨bx, ox, rfl, hbx, hcx⟩ := h.2.2.2.2 (by omega)
      have HCX := hid (fun (c : Nat) (hc : c < n) => (hb.cell (p := ⟨bx, ox + c, none⟩) hbx).trans (hcx c hc))
      have HCO := hid q3
      obtain ⟨x1, x2, x3, x4⟩ := id BX
      clear q3 q4 e1 hcx
      go_wp2_with fail
      clear x1 x2 x3 x4 k1
      go_loopw [4, 25] (fun l i wr => ∃ (q : Nat), q ≤ p ∧ i = .int .i64 (q : Int) ∧ l = .int .i64 (fxIn xs os (nth os p) (fxAt xs os p) q : Int) ∧ Quiet wo wr) (fun _ i _ => p - (intOf i).toNat)
      case atStart => exact ⟨0, Nat.zero_le _, rfl, rfl, ⟨0, rfl⟩⟩
      case round =>
        obtain ⟨q, hq, rfl, rfl, q0, hq0⟩ := hrel
        subst hq0
        by_cases hlq : q < p
        · obtain ⟨cq, e2, c2⟩ := HN.out q (by omega)
          rw [HL2.out] at c2
          have k2 := HCO.out q (by omega)
          rw [e2] at k2
          have HE2 := hid e2
          have hqp : (q : Int) < (p : Int) := by omega
          have xq := HCX.out cq c2
          have xp := HCX.out cp c1
          obtain ⟨r1, r2⟩ := HBD.out cq c2
          obtain ⟨r3, r4⟩ := HBD.out cp c1
          have hwr : IntKind.i64.wrap (nth xs cq - nth xs cp) = nth xs cq - nth xs cp := IntWalk.i64_in _ (by omega)
          have z1 : (cq : Int) < (n : Int) := by omega
          have z2 : (cp : Int) < (n : Int) := by omega
          have z3 : (0 : Int) ≤ (cq : Int) := by omega
          have z4 : (0 : Int) ≤ (cp : Int) := by omega
          clear e2 r1 r2 r3 r4
          by_cases h1 : cq < cp
          · have h1i : (cq : Int) < (cp : Int) := by omega
            have hd1 : decide ((cq : Int) < (cp : Int)) = true := decide_eq_true h1i
            by_cases h2 : 100 < nth xs cq - nth xs cp
            · have HY : Hid (max (fxIn xs os (nth os p) (fxAt xs os p) q : Int) ((q : Int) + 1) = (fxIn xs os (nth os p) (fxAt xs os p) (q + 1) : Int)) := hid (by
                rw [fxIn_yes (by rw [HE1.out, HE2.out]; exact h1i) (by rw [HE1.out, HE2.out, Int.toNat_natCast, Int.toNat_natCast]; exact h2)]
                omega)
              have hd2 : decide (100 < nth xs cq - nth xs cp) = true := decide_eq_true h2
              generalize nth xs cq = u at *
              generalize nth xs cp = v at *
              generalize fxIn xs os (nth os p) (fxAt xs os p) q = F at *
              generalize hG : fxIn xs os (nth os p) (fxAt xs os p) (q + 1) = G at *
              go_wp2_with fail
              go_quiet (fail)
              go_wp2_with fail
              refine (l1Most_any _ _ _).mono ?_
              rintro e _ ⟨rfl, rfl⟩
              rw [HY.out]
              go_wp2_with fail
              go_roundw
              case rel => exact ⟨q + 1, by omega, by go_num, by rw [hG], ⟨_, rfl⟩⟩
              case measure => simp [intOf]; omega
            · have HY : Hid (fxIn xs os (nth os p) (fxAt xs os p) (q + 1) = fxIn xs os (nth os p) (fxAt xs os p) q) := hid (fxIn_no2 (by rw [HE1.out, HE2.out, Int.toNat_natCast, Int.toNat_natCast]; exact h2))
              have hd2 : decide (100 < nth xs cq - nth xs cp) = false := decide_eq_false h2
              generalize nth xs cq = u at *
              generalize nth xs cp = v at *
              go_wp2_with fail
              go_quiet (fail)
              go_wp2_with fail
              go_roundw
              case rel => exact ⟨q + 1, by omega, by go_num, by rw [HY.out], ⟨_, rfl⟩⟩
              case measure => simp [intOf]; omega
          · have h1i : ¬ (cq : Int) < (cp : Int) := by omega
            have hd1 : decide ((cq : Int) < (cp : Int)) = false := decide_eq_false h1i
            have HY : Hid (fxIn xs os (nth os p) (fxAt xs os p) (q + 1) = fxIn xs os (nth os p) (fxAt xs os p) q) := hid (fxIn_no1 (by rw [HE1.out, HE2.out]; exact h1i))
            go_wp2_with fail
            go_quiet (fail)
            go_wp2_with fail
            go_roundw
            case rel => exact ⟨q + 1, by omega, by go_num, by rw [HY.out], ⟨_, rfl⟩⟩
            case measure => simp [intOf]; omega
        · obtain rfl : q = p := by omega
          rw [← HS.out]
          have st6 := below_drewN (Below.refl wo.heap.size wo) q0
          replace oo := oo.below st6 (Nat.le_refl _)
          replace of := of.below st6 (Nat.le_refl _)
          replace BX := BX.below st6 (by omega)
          replace BR := BR.below st6 (boxAt_lt BR)
          replace hb := hb.trans (st6.mono hb.size)
          replace hsw := Nat.le_trans hsw st6.size
          have ap : Apart2 (some ⟨go, 0, none⟩) af := apart_lt hlo (of.ge.mono (by omega))
          clear st6
          generalize wo.drewN q0 = w6 at *
          obtain ⟨x1, x2, x3, x4⟩ := id BX
          go_wp2_with (at_builtin; refine wpList_append_two _ rfl _ _ rfl (kx + 1) _ _ _ _ _ rfl rfl of (by omega) hsw (w.heap.size + 1) _ _ _ _ oo ap.symm ?_; intro a7 c7 w7 of7 oo7 ap7 st7; have X7 := BX.below st7 (Nat.lt_succ_self _); obtain ⟨y1, y2, y3, y4⟩ := id X7)
          have X8 := X7.set1 (z := .slice a7 (q + 1) c7)
          have of8 := of7.setNeR (g := kx) (i := 1) (of7.ge.neR (by omega)) (.slice a7 (q + 1) c7)
          have oo8 := oo7.setNeR (g := kx) (i := 1) (fun p hp e => by have := hlo p hp; omega) (.slice a7 (q + 1) c7)
          have BR8 := (BR.below st7 (by omega)).apart (g' := kx) (i := 1) (z := .slice a7 (q + 1) c7) (by omega)
          have hb8 := (hb.trans (st7.mono (by omega))).setCell (p := ⟨kx, 1, none⟩) (show w.heap.size ≤ kx by omega) (.slice a7 (q + 1) c7)
          have hs8 : kx + 1 ≤ (w7.setCell ⟨kx, 1, none⟩ (.slice a7 (q + 1) c7)).heap.size := by have := st7.size; simp; omega
          go_roundw
          case rel => exact ⟨q + 1, a7, c7, by omega, by go_num, rfl, oo8, by rw [HFS.out]; exact of8, X8, BR8, hb8, hs8⟩
          case measure => simp [intOf]; omega
    · obtain rfl : p = n := by omega
      have HE : Hid (farXTo xs os p = farX xs os) := hid (by rw [farX, HOL2.out])
      have ap : Apart2 ao af := apart_lt hlo (of.ge.mono (by omega))
      have f1 := ((oo.mono (show w.heap.size ≤ w.heap.size + 1 by omega)).setNeR (g := w.heap.size) (i := 0) (oo.ge.neR (by omega)) (.slice ao p co)).setNeR (g := w.heap.size) (i := 1) (oo.ge.neR (by omega)) (.slice af p cf)
      have f2 := ((of.mono (show w.heap.size ≤ kx + 1 by omega)).setNeR (g := w.heap.size) (i := 0) (of.ge.neR (by omega)) (.slice ao p co)).setNeR (g := w.heap.size) (i := 1) (of.ge.neR (by omega)) (.slice af p cf)
      have B2f := (BR.set0 (z := .slice ao p co)).set1 (z := .slice af p cf)
      have hbf := (hb.setCell (p := ⟨w.heap.size, 0, none⟩) (by simp) (.slice ao p co)).setCell (p := ⟨w.heap.size, 1, none⟩) (by simp) (.slice af p cf)
      obtain ⟨x1, x2, x3, x4⟩ := id BR
      obtain ⟨u1, u2, u3, u4⟩ := id BX
      go_wp2_with fail
      obtain ⟨y1, y2, y3, y4⟩ := id B2f
      rw [HOS.out]
      rw [HE.out] at f2
      refine bodyPost_ret (v := .agg #[.slice ao p co, .slice af p cf]) (by simp [results, Try.results46, go_sem, *]) rfl ⟨_, _, _, _, _, _, rfl, f1, f2, ap, hbf⟩

set_option maxHeartbeats 1000000 in
theorem specRegPt_any (a : Option Addr) (n cap : Nat) (xs : List Int) (w : World) (h : Has w a n cap xs) :
    Calls Try.prog 8 #[.slice a n cap] w (PostRgn w (regX xs)) := by
  have hbW : Below w.heap.size w (w.alloc (.cells #[.slice none 0 0, .slice none 0 0] 24)) := (Below.refl _ w).alloc (Nat.le_refl _) _
  have BR := boxAt_new w (.slice none 0 0) (.slice none 0 0) 24
  go_enter Try.func8, Try.ntmps8
  go_wp2_with fail
  have hsz : (w.alloc (.cells #[.slice none 0 0, .slice none 0 0] 24)).heap.size = w.heap.size + 1 := by simp
  generalize w.alloc (.cells #[.slice none 0 0, .slice none 0 0] 24) = W at *
  refine (rePoint_any _ _ _ _ _ (h.below hbW (Nat.le_refl _))).mono ?_
  rintro e w1 ⟨rfl, qq⟩
  have st : Below W.heap.size W w1 := qq.below _
  have hs1 := st.size
  replace BR := BR.below st (by omega)
  have hb1 := hbW.trans (st.mono hbW.size)
  clear st hbW
  by_cases hp : pointB xs = true
  · rw [hp]
    have HR : Hid (regX xs = ((ordX xs, farX xs (ordX xs)), true)) := hid (by unfold regX; rw [if_pos hp])
    have HP := hid hp
    clear hp
    go_wp2_with fail
    refine (reOf_any _ _ _ _ _ (h.below hb1 (Nat.le_refl _)) HP.out).mono ?_
    rintro e w2 ⟨ah, q, ch, al, r, cl, rfl, oh, ol, ap, st⟩
    replace BR := BR.below st (by omega)
    have hb2 := hb1.trans (st.mono hb1.size)
    have f1 := ((oh.mono (show w.heap.size ≤ w1.heap.size by omega)).setNeR (g := w.heap.size) (i := 0) (oh.ge.neR (by omega)) (.slice ah q ch)).setNeR (g := w.heap.size) (i := 1) (oh.ge.neR (by omega)) (.slice al r cl)
    have f2 := ((ol.mono (show w.heap.size ≤ w1.heap.size by omega)).setNeR (g := w.heap.size) (i := 0) (ol.ge.neR (by omega)) (.slice ah q ch)).setNeR (g := w.heap.size) (i := 1) (ol.ge.neR (by omega)) (.slice al r cl)
    have B2f := (BR.set0 (z := .slice ah q ch)).set1 (z := .slice al r cl)
    have hb5 := (hb2.setCell (p := ⟨w.heap.size, 0, none⟩) (by simp) (.slice ah q ch)).setCell (p := ⟨w.heap.size, 1, none⟩) (by simp) (.slice al r cl)
    obtain ⟨t1, t2, t3, t4⟩ := id BR
    go_wp2_with fail
    obtain ⟨y1, y2, y3, y4⟩ := id B2f
    refine bodyPost_ret (v := .tuple #[.agg #[.slice ah q ch, .slice al r cl], .bool true]) (by simp [results, Try.results8, go_sem, *]) rfl (postRgn HR.out f1 f2 ap hb5)
  · rw [Bool.eq_false_iff.2 hp]
    have HR : Hid (regX xs = (([], []), false)) := hid (by unfold regX; rw [if_neg hp])
    have B2 := (BR.set0 (z := .slice none 0 0)).set1 (z := .slice none 0 0)
    have hb5 := (hb1.setCell (p := ⟨w.heap.size, 0, none⟩) (by simp) (.slice none 0 0)).setCell (p := ⟨w.heap.size, 1, none⟩) (by simp) (.slice none 0 0)
    obtain ⟨x1, x2, x3, x4⟩ := id BR
    go_wp2_with fail
    obtain ⟨y1, y2, y3, y4⟩ := id B2
    refine bodyPost_ret (v := .tuple #[.agg #[.slice none 0 0, .slice none 0 0], .bool false]) (by simp [results, Try.results8, go_sem, *]) rfl (postRgn_no HR.out hb5)
end Go.Proofs.Ytakadjhbomggbab

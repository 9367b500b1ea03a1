/- The law that of all turned lists just one is a slope parking function, walked. -/
import Derived.Test.YtfkejkkplafciadCur
import Derived.Test.YtfkejkkplafciadSpecS
import Derived.Test.YtfkejkkplafciadMathT
import Derived.Test.YtfkejkkplafciadMathSk
import Derived.Test.YtfkejkkplafciadMathY
import Derived.Test.YtfkejkkplafciadImplC
import Derived.Test.YtfkejkkplafciadHelp
import Derived.Test.YtfkejkkplafciadSpecA
import Derived.Test.YtfkejkkplafciadDrawSm
import Derived.Test.YtfkejkkplafciadImplSt
import Derived.Test.YtfkejkkplafciadImplCj
namespace Go.Proofs.Ytfkejkkplafciad
open Go.RowKit

theorem HasB.below {w w' : World} {a : Option Addr} {n K : Nat} (h : HasB w a n K) (hb : Below K w w') : HasB w' a n K := by
  refine ⟨h.1, fun hx => ?_⟩
  obtain ⟨b, off, ha, hbk, hc⟩ := h.2 hx
  refine ⟨b, off, ha, hbk, fun i hi => ?_⟩
  obtain ⟨u, u0, u1, hu⟩ := hc i hi
  exact ⟨u, u0, u1, by rw [hb.cell (p := ⟨b, off + i, none⟩) hbk]; exact hu⟩

/-- An argument's slice of bytes. -/
theorem hasB_of_row {w : World} {a : Option Addr} {len cap : Nat} {zs : List Int}
    (h : (a = none ∧ len = 0 ∧ cap = 0 ∧ zs = []) ∨ ∃ x, a = some x ∧ len ≤ cap ∧ cap ≤ maxLen ∧ zs.length = cap ∧ (∀ i, i < zs.length → w.cell? (x.add i) = some (.int .u8 (zs.getD i 0))) ∧ ∀ n ∈ zs, (Lit.int .u8 n).wf = true) :
    len ≤ maxLen ∧ (len ≤ 1048576 → HasB w a len w.heap.size) := by
  rcases h with ⟨rfl, rfl, rfl, rfl⟩ | ⟨x, rfl, h1, h2, h3, h4, h5⟩
  · exact ⟨by unfold maxLen; omega, fun _ => ⟨by omega, by omega⟩⟩
  · refine ⟨by omega, fun hl => ⟨by omega, fun hx => ?_⟩⟩
    obtain ⟨b, off, spot⟩ := x
    have hc := h4 0 (by omega)
    have hspot : spot = none := by simpa [Addr.add] using World.cell?_spot hc
    subst hspot
    refine ⟨b, off, rfl, by have := World.block_lt_of_cell? w _ hc; simpa [Addr.add] using this, fun i hi => ?_⟩
    have := h4 i (by omega)
    have e : (⟨b, off, none⟩ : Addr).add i = ⟨b, off + i, none⟩ := by unfold Addr.add; split <;> simp_all
    rw [e] at this
    have hm : zs.getD i 0 ∈ zs := by simp [show i < zs.length by omega]
    have hw := h5 _ hm
    generalize zs.getD i 0 = u at *
    have hw' : (0 : Int) ≤ u ∧ u ≤ 255 := by simpa [Lit.wf, IntKind.min, IntKind.max, IntKind.signed, IntKind.bits] using hw
    exact ⟨u, hw'.1, hw'.2, this⟩

/-- The law's answer. -/
def Holds (w : World) (e : Ending) (w' : World) : Prop := e = .returned (.bool true) ∧ Below w.heap.size w w'
end Go.Proofs.Ytfkejkkplafciad

namespace Go.Proofs.Ytfkejkkplafciad
open Go.RowKit

/-- Whether the bytes are too many. -/
def Big (n m : Nat) (w : World) (e : Ending) (w' : World) : Prop := ∃ r : Bool, e = .returned (.bool r) ∧ (r = false → n + m ≤ 1048576) ∧ w = w'

theorem big_any (a b : Option Addr) (n m cap cap' : Nat) (w : World) (hn : n ≤ 9223372036854775807) :
    Calls Try.prog 7 #[.slice a n cap, .slice b m cap'] w (Big n m w) := by
  by_cases h1 : (1048576 : Int) < (n : Int)
  · go_enter Try.func7, Try.ntmps7
    go_wp2_with fail
    go_ret
    exact ⟨true, ret_bool (by simp), by simp, rfl⟩
  · by_cases h2 : (1048576 : Int) - n < (m : Int)
    · go_enter Try.func7, Try.ntmps7
      go_wp2_with fail
      go_ret
      exact ⟨true, ret_bool (by simp), by simp, rfl⟩
    · go_enter Try.func7, Try.ntmps7
      go_wp2_with fail
      go_ret
      exact ⟨false, ret_bool (by simp), fun _ => by omega, rfl⟩

end Go.Proofs.Ytfkejkkplafciad

namespace Go.Proofs.Ytfkejkkplafciad
open Go.RowKit

theorem bnds_succ (n : Nat) : bnds n (n + 1) = idx n := by
  unfold bnds idx
  apply List.map_congr_left
  intro i hi
  rw [List.mem_range] at hi
  have : i * (n + 1) / n = i := by
    rw [Nat.mul_add, Nat.mul_one, Nat.add_comm, Nat.add_mul_div_right _ _ (by omega : 0 < n), Nat.div_eq_of_lt hi]
    omega
  rw [this]
theorem turnSl_facts {xs : List Int} {n : Nat} {a : Int} (h : (slB (n : Int) a && allB xs 0 (a - 1)) = true) (hl : xs.length = n) :
    ∃ q b : Nat, a = (q : Int) ∧ b < q ∧ slN n q = true ∧ (∀ i, i < n → 0 ≤ nth xs i ∧ nth xs i < (q : Int)) ∧ turnSlOf xs a = (turn xs q b, (b : Int), true) ∧
      (∀ k : Nat, k < q → isSlOf (turn xs q k) q = (decide (k = b), true)) ∧
      (q = n + 1 → classOf xs = (turn xs q b, (b : Int), true) ∧ usualOf (turn xs q b) = (turn xs q b, true) ∧ isPark (turn xs q b) = true) := by
  subst hl
  obtain ⟨h1, h2⟩ := Bool.and_eq_true_iff.1 h
  obtain ⟨m, q, e1, rfl, hs⟩ := slB_iff.1 h1
  obtain rfl : xs.length = m := by omega
  have hb : ∀ x ∈ xs, 0 ≤ x ∧ x < (q : Int) := fun x hx => by
    have := (allB_iff.1 h2) x hx
    omega
  obtain ⟨g1, g2, _⟩ := slBy_good hs rfl hb
  have hu := (turn_one hs rfl hb).2
  have ht : ∀ k : Nat, k < q → und (bnds xs.length q) (turn xs q k) = decide (k = slBy xs.length q xs) := by
    intro k hk
    rw [Bool.eq_iff_iff, decide_eq_true_eq]
    constructor
    · intro hh
      exact hu k _ hk g1 hh g2
    · rintro rfl
      exact g2
  have hlen : ∀ k : Int, (turn xs q k).length = xs.length := fun k => length_turn xs q k
  refine ⟨q, slBy xs.length q xs, rfl, g1, hs, fun i hi => hb _ (nth_mem hi), ?_, fun k hk => ?_, fun e => ?_⟩
  · unfold turnSlOf
    rw [if_pos h, Int.toNat_natCast]
  · unfold isSlOf
    rw [hlen, h1, Int.toNat_natCast, ht k hk]
    rfl
  · subst e
    have h6 := (slN_iff.1 hs).1
    have hc : circB xs = true := circB_iff.2 ⟨by omega, fun x hx => by have := hb x hx; omega⟩
    have hpk : ∀ k : Nat, isPark (turn xs ((xs.length + 1 : Nat) : Int) k) = und (bnds xs.length (xs.length + 1)) (turn xs ((xs.length + 1 : Nat) : Int) k) := fun k => by
      rw [bnds_succ, und_idx (by rw [hlen]) (by omega)]
    obtain ⟨f1, f2, _⟩ := cfree_spec hc
    obtain ⟨f, hf⟩ : ∃ f : Nat, (f : Int) = (xs.length : Int) - cfree xs := ⟨((xs.length : Int) - cfree xs).toNat, by omega⟩
    have hp : isPark (turn xs ((xs.length + 1 : Nat) : Int) f) = true := by
      have := turn_park hc (k := f) (by omega)
      rw [Int.natCast_succ, this]
      simpa using hf
    rw [hpk] at hp
    have hfb : f = slBy xs.length (xs.length + 1) xs := hu f _ (by omega) g1 hp g2
    have hg : isPark (turn xs ((xs.length + 1 : Nat) : Int) (slBy xs.length (xs.length + 1) xs)) = true := by rw [hpk]; exact g2
    refine ⟨?_, ?_, hg⟩
    · unfold classOf
      rw [if_pos hc, ← hf, hfb, Int.natCast_succ]
    · unfold usualOf goodSl
      rw [hlen]
      have : ((xs.length : Int) + 1) = ((xs.length + 1 : Nat) : Int) := by omega
      rw [this, h1, Int.toNat_natCast, g2]
      rfl
theorem turnSl_not {xs : List Int} {n : Nat} {a : Int} (h : ¬ (slB (n : Int) a && allB xs 0 (a - 1)) = true) (hl : xs.length = n) : turnSlOf xs a = ([], 0, false) := by
  subst hl
  unfold turnSlOf
  rw [if_neg h]
theorem isSl_yes {xs : List Int} {n : Nat} {a : Int} (h : slB (n : Int) a = true) (hl : xs.length = n) : ∃ x, isSlOf xs a = (x, true) ∧ boundsOf (n : Int) a = (bnds n a.toNat, true) := by
  subst hl
  refine ⟨_, by unfold isSlOf; rw [if_pos h], ?_⟩
  unfold boundsOf
  rw [if_pos h, Int.toNat_natCast]
theorem isSl_no {xs : List Int} {n : Nat} {a : Int} (h : ¬ slB (n : Int) a = true) (hl : xs.length = n) : isSlOf xs a = (false, false) := by
  subst hl
  unfold isSlOf
  rw [if_neg h]
end Go.Proofs.Ytfkejkkplafciad

namespace Go.Proofs.Ytfkejkkplafciad
open Go.RowKit

theorem isPark_askedW {xs : List Int} (h : isPark xs = true) : asked xs = true := by
  obtain ⟨h1, h2, _⟩ := isPark_iff.1 h
  simp only [asked, Bool.and_eq_true, decide_eq_true_eq, allB_iff]
  exact ⟨h1, fun x hx => by have := h2 x hx; omega⟩
set_option maxHeartbeats 400000 in
theorem wParkW_any (a : Option Addr) (n cap : Nat) (xs : List Int) (w : World) (h : Has w a n cap xs) :
    Calls Try.prog 31 #[.slice a n cap] w (PostBool w (isPark xs)) := by
  by_cases hp : isPark xs = true
  · have HI : Hid (isParking xs = (true, true)) := hid (by simp [isParking, isPark_askedW hp, hp])
    have HP := hid hp
    clear hp
    go_enter Try.func31, Try.ntmps31
    go_wp2_with fail
    refine (isParking_any _ _ _ _ _ h).mono ?_
    rw [HI.out]
    rintro e w1 ⟨rfl, hb⟩
    go_wp2_with fail
    go_ret
    exact postBool HP.out.symm hb
  · have HP := hid (Bool.eq_false_iff.2 hp)
    obtain ⟨ok, hok⟩ : ∃ ok, isParking xs = (false, ok) := by
      by_cases ha : asked xs = true
      · exact ⟨true, by simp [isParking, ha, Bool.eq_false_iff.2 hp]⟩
      · exact ⟨false, by simp [isParking, ha]⟩
    have HI := hid hok
    clear hok hp
    go_enter Try.func31, Try.ntmps31
    go_wp2_with fail
    refine (isParking_any _ _ _ _ _ h).mono ?_
    rw [HI.out]
    rintro e w1 ⟨rfl, hb⟩
    cases ok with
    | true =>
      go_wp2_with fail
      go_ret
      exact postBool HP.out.symm hb
    | false =>
      go_wp2_with fail
      go_ret
      exact postBool HP.out.symm hb
end Go.Proofs.Ytfkejkkplafciad

namespace Go.Proofs.Ytfkejkkplafciad
open Go.RowKit

set_option maxHeartbeats 400000 in
theorem wSame_any (a b : Option Addr) (n m cap cap' : Nat) (xs ys : List Int) (w : World) (h : Has w a n cap xs) (h' : Has w b m cap' ys) :
    Calls Try.prog 13 #[.slice a n cap, .slice b m cap'] w fun e w' => e = .returned (.bool (same xs ys)) ∧ Quiet w w' := by
  obtain ⟨h0, h1, h2, h3, h4⟩ := h
  obtain ⟨k0, k1, k2, k3, k4⟩ := h'
  by_cases hnm : n = m
  · have hb : ((n : Int) != (m : Int)) = false := by simp [hnm]
    subst hnm
    go_enter Try.func13, Try.ntmps13
    go_wp2_with fail
    go_loopw [13] (fun i wr => ∃ k : Nat, k ≤ n ∧ i = .int .i64 k ∧ FromTo xs ys k ∧ Quiet w wr) (fun i _ => n - (intOf i).toNat)
    case atStart => exact ⟨0, Nat.zero_le _, rfl, fun i hi => by omega, ⟨0, rfl⟩⟩
    case round =>
      obtain ⟨k, hk, rfl, hft, q, hq⟩ := hrel
      subst hq
      by_cases hlt : k < n
      · obtain ⟨b1, off1, rfl, hb1, hc1⟩ := h4 (by omega)
        obtain ⟨b2, off2, rfl, hb2, hc2⟩ := k4 (by omega)
        have hck := hc1 k hlt
        have hdk := hc2 k hlt
        have hkk : (k : Int) < (n : Int) := by omega
        have hkz : (0 : Int) ≤ (k : Int) := by omega
        clear hc1 hc2 h4 k4
        by_cases he : nth xs k = nth ys k
        · have hbe : (nth xs k != nth ys k) = false := by simp [he]
          have HE := hid he
          clear he
          go_wp2_with fail
          go_quiet (fail)
          go_wp2_with fail
          go_roundw
          case rel => exact ⟨k + 1, by omega, by go_num, fun i hi => by rcases Nat.lt_succ_iff_lt_or_eq.1 hi with h | rfl; exact hft i h; exact HE.out.symm, ⟨_, rfl⟩⟩
          case measure => simp [intOf]; omega
        · have hbe : (nth xs k != nth ys k) = true := by simp [he]
          have HE := hid he
          clear he
          go_wp2_with fail
          go_quiet (fail)
          go_wp2_with fail
          go_ret
          exact ⟨ret_bool (same_no HE.out).symm, (Quiet.more ⟨_, rfl⟩ _)⟩
      · obtain rfl : k = n := by omega
        go_wp2_with fail
        go_ret
        exact ⟨ret_bool (same_yes (by omega) (by rw [h0]; exact hft)).symm, ⟨_, rfl⟩⟩
  · have hb : ((n : Int) != (m : Int)) = true := by simp; omega
    go_enter Try.func13, Try.ntmps13
    go_wp2_with fail
    go_ret
    exact ⟨ret_bool (show false = same xs ys from by unfold same; symm; rw [decide_eq_false_iff_not]; rintro rfl; omega), ⟨0, rfl⟩⟩

set_option maxHeartbeats 400000 in
theorem wHas_any (a : Option Addr) (n cap : Nat) (xs : List Int) (x : Int) (w : World) (h : Has w a n cap xs) :
    Calls Try.prog 43 #[.slice a n cap, .int .i64 x] w fun e w' => e = .returned (.bool (hasB xs x)) ∧ w = w' := by
  obtain ⟨h0, h1, h2, h3, h4⟩ := h
  go_enter Try.func43, Try.ntmps43
  go_wp2_with fail
  go_loop [9] (fun i => ∃ k : Nat, k ≤ n ∧ i = .int .i64 k ∧ hasB (xs.take k) x = false) (fun i => n - (intOf i).toNat)
  case atStart => exact ⟨0, Nat.zero_le _, rfl, by simp [hasB]⟩
  case round =>
    obtain ⟨k, hk, rfl, hrel⟩ := hrel
    have HR := hid hrel
    clear hrel
    by_cases hlt : k < n
    · obtain ⟨b, off, rfl, hb, hc⟩ := h4 (by omega)
      have hck := hc k hlt
      clear hc h4
      by_cases he : nth xs k = x
      · have hbe : (nth xs k == x) = true := by simp [he]
        have HE := hid he
        clear he
        go_wp2_with fail
        go_ret
        exact ⟨ret_bool (hasB_yes (by omega) HE.out).symm, rfl⟩
      · have hbe : (nth xs k == x) = false := by simp [he]
        have HE := hid he
        clear he
        go_wp2_with fail
        go_round
        case rel => exact ⟨k + 1, by omega, by go_num, hasB_succ (by omega) HR.out HE.out⟩
        case measure => simp [intOf]; omega
    · go_wp2_with fail
      go_ret
      exact ⟨ret_bool (by rw [← HR.out, List.take_of_length_le (by omega)]), rfl⟩

end Go.Proofs.Ytfkejkkplafciad

namespace Go.Proofs.Ytfkejkkplafciad
open Go.RowKit

theorem take_turned {xs : List Int} {p b : Int} {n : Nat} (hl : xs.length = n) : turn (xs.take n) p b = turn xs p b := by rw [List.take_of_length_le (by omega)]

set_option maxRecDepth 100000 in
set_option maxHeartbeats 16000000 in
theorem class_walk (a b : Option Addr) (n m cap cap' : Nat) (w : World) (hn : n ≤ maxLen) (h : n ≤ 1048576 → HasB w a n w.heap.size) (h' : m ≤ 1048576 → HasB w b m w.heap.size) :
    Calls Try.prog 4 #[.slice a n cap, .slice b m cap'] w (Holds w) := by
  have H1 := hid h
  have H2 := hid h'
  have HN := hid hn
  clear h h' hn
  have hB : Below w.heap.size w w := Below.refl _ _
  go_enter Try.func4, Try.ntmps4
  go_wp2_with fail
  refine (big_any _ _ _ _ _ _ _ (by have := HN.out; unfold maxLen at this; omega)).mono ?_
  rintro e _ ⟨r, rfl, hr, rfl⟩
  have HR := hid hr
  clear hr
  cases r with
  | true =>
    go_wp2_with fail
    go_ret
    exact ⟨rfl, hB⟩
  | false =>
    have hnm := HR.out rfl
    clear HR
    have HA := hid (H1.out (by omega))
    have HM := hid (H2.out (by omega))
    clear H1 H2 HN
    go_wp2_with fail
    refine (drawTurnToSlope_any _ _ _ _ HA.out).mono ?_
    rintro e v1 ⟨a_l, n_l, c_l, xs, aa, rfl, o_l, hnl, b0, b1, st⟩
    replace hB := hB.trans (st.mono hB.size)
    clear st
    by_cases hT : (slB (n_l : Int) aa && allB xs 0 (aa - 1)) = true
    · skip
      obtain ⟨q, bN, rfl, hbq, hs, hbd, f1, f2, f3⟩ := turnSl_facts hT o_l.len
      have HLN := hid o_l.len
      have hq13 := (slN_iff.1 hs).2.1.2
      have hn6 := (slN_iff.1 hs).1.2
      have HBD0 := hid hbd
      have HIS := hid f2
      have H3 := hid f3
      obtain ⟨zs, hzs⟩ : ∃ zs, turn xs (q : Int) (bN : Int) = zs := ⟨_, rfl⟩
      rw [hzs] at f1
      have HZS := hid hzs
      have HTN := hid f1
      clear hs hbd f1 f2 f3 hzs hT b0 b1
      have hne1 := neq_self_int (bN : Int)
      go_wp2_with fail
      refine (implTurnSl_any _ _ _ _ _ _ o_l.has).mono ?_
      rw [HTN.out]
      rintro e v2 ⟨a_p, n_p, c_p, rfl, o_p, st⟩
      replace o_l := o_l.below st (Nat.le_refl _)
      replace hB := hB.trans (st.mono hB.size)
      clear st
      go_wp2_with fail
      refine (specTurnSl_any _ _ _ _ _ _ o_l.has).mono ?_
      rw [HTN.out]
      rintro e v3 ⟨a_r, n_r, c_r, rfl, o_r, st⟩
      replace o_l := o_l.below st (Nat.le_refl _)
      replace o_p := o_p.below st (Nat.le_refl _)
      replace hB := hB.trans (st.mono hB.size)
      clear st
      go_wp2_with fail
      refine (wSame_any _ _ _ _ _ _ _ _ _ o_p.has o_r.has).mono ?_
      rintro e v4 ⟨rfl, q⟩
      have st : Below v3.heap.size v3 v4 := q.below _
      replace o_l := o_l.below st (Nat.le_refl _)
      replace o_p := o_p.below st (Nat.le_refl _)
      replace o_r := o_r.below st (Nat.le_refl _)
      replace hB := hB.trans (st.mono hB.size)
      clear st
      clear q
      rw [same_self]
      clear o_r
      go_wp2_with fail
      refine (drawIsSl_any b m cap' _ (HM.out.grow hB (Nat.le_refl _))).mono ?_
      rintro e v5 ⟨a_m, n_m, c_m, ys, wd, rfl, o_m, hnm2, d0, d1, st⟩
      replace o_l := o_l.below st (Nat.le_refl _)
      replace o_p := o_p.below st (Nat.le_refl _)
      replace hB := hB.trans (st.mono hB.size)
      clear st
      by_cases hM : slB (n_m : Int) wd = true
      · skip
        obtain ⟨x, f1, f2⟩ := isSl_yes hM o_m.len
        have HI := hid f1
        have HBD := hid f2
        have hxx : (x != x) = false := by simp
        clear f1 f2 hM
        go_wp2_with fail
        refine (implIsSl_any _ _ _ _ _ _ o_m.has).mono ?_
        rw [HI.out]
        rintro e v6 ⟨rfl, st⟩
        replace o_l := o_l.below st (Nat.le_refl _)
        replace o_p := o_p.below st (Nat.le_refl _)
        replace o_m := o_m.below st (Nat.le_refl _)
        replace hB := hB.trans (st.mono hB.size)
        clear st
        go_wp2_with fail
        refine (specIsSl_any _ _ _ _ _ _ o_m.has).mono ?_
        rw [HI.out]
        rintro e v7 ⟨rfl, st⟩
        replace o_l := o_l.below st (Nat.le_refl _)
        replace o_p := o_p.below st (Nat.le_refl _)
        replace o_m := o_m.below st (Nat.le_refl _)
        replace hB := hB.trans (st.mono hB.size)
        clear st
        go_wp2_with fail
        refine (implBounds_any _ _ _).mono ?_
        rw [HBD.out]
        rintro e v8 ⟨a_b, n_b, c_b, rfl, o_b, st⟩
        replace o_l := o_l.below st (Nat.le_refl _)
        replace o_p := o_p.below st (Nat.le_refl _)
        replace o_m := o_m.below st (Nat.le_refl _)
        replace hB := hB.trans (st.mono hB.size)
        clear st
        go_wp2_with fail
        refine (specBounds_any _ _ _).mono ?_
        rw [HBD.out]
        rintro e v9 ⟨a_d, n_d, c_d, rfl, o_d, st⟩
        replace o_l := o_l.below st (Nat.le_refl _)
        replace o_p := o_p.below st (Nat.le_refl _)
        replace o_m := o_m.below st (Nat.le_refl _)
        replace o_b := o_b.below st (Nat.le_refl _)
        replace hB := hB.trans (st.mono hB.size)
        clear st
        go_wp2_with fail
        refine (wSame_any _ _ _ _ _ _ _ _ _ o_b.has o_d.has).mono ?_
        rintro e v10 ⟨rfl, q⟩
        have st : Below v9.heap.size v9 v10 := q.below _
        replace o_l := o_l.below st (Nat.le_refl _)
        replace o_p := o_p.below st (Nat.le_refl _)
        replace o_m := o_m.below st (Nat.le_refl _)
        replace o_b := o_b.below st (Nat.le_refl _)
        replace o_d := o_d.below st (Nat.le_refl _)
        replace hB := hB.trans (st.mono hB.size)
        clear st
        clear q
        rw [same_self]
        clear o_b o_d o_m
        go_wp2_with fail
        go_loopw [23, 24] (fun fd i wr => ∃ k d : Nat, k ≤ q ∧ Hid (d = if bN < k then 1 else 0) ∧ fd = .int .i64 (d : Int) ∧ i = .int .i64 (k : Int) ∧ Below v10.heap.size v10 wr) (fun _ i _ => q - (intOf i).toNat)
        case atStart => exact ⟨0, 0, by omega, hid (by simp), rfl, rfl, Below.refl _ _⟩
        case round =>
          obtain ⟨wo, rfl⟩ : ∃ wo : World, wo = wr := ⟨_, rfl⟩
          obtain ⟨k, d, hk, HD, rfl, rfl, st⟩ := hrel
          have hV := st
          replace o_l := o_l.below st (Nat.le_refl _)
          replace o_p := o_p.below st (Nat.le_refl _)
          replace hB := hB.trans (st.mono hB.size)
          clear st
          by_cases hlt : k < q
          · skip
            have hIk := HIS.out k hlt
            have HIK := hid hIk
            clear hIk
            have hd1 : d ≤ 1 := by have := HD.out; split at this <;> omega
            have hmz : ¬ (q : Int) = 0 := by omega
            have hqp : (0 : Int) < (q : Int) := by omega
            go_wp2_with fail
            go_loopw [25, 132] (fun o i wr => ∃ (j : Nat) (a' : Option Addr) (cap' : Nat), j ≤ n_l ∧ i = .int .i64 (j : Int) ∧ o = .slice a' j cap' ∧ Own wr wo.heap.size a' j cap' (turn (xs.take j) q k) ∧ Below wo.heap.size wo wr) (fun _ i _ => n_l - (intOf i).toNat)
            case atStart => exact ⟨0, none, 0, by omega, rfl, rfl, Own.nil _ _, Below.refl _ _⟩
            case round =>
              obtain ⟨j, a', cap', hj, rfl, rfl, hown, hb⟩ := hrel
              by_cases hjl : j < n_l
              · skip
                obtain ⟨b0, off, rfl, hbb, hc⟩ := o_l.has.2.2.2.2 (by omega)
                have hck : wr.cell? ⟨b0, off + j, none⟩ = some (.int .i64 (nth xs j)) := by rw [hb.cell (p := ⟨b0, off + j, none⟩) hbb]; exact hc j hjl
                obtain ⟨u0, u1⟩ := HBD0.out j hjl
                have HS := hid (turn_succ (p := (q : Int)) (b := (k : Int)) (k := j) (by rw [HLN.out]; exact hjl))
                clear hc
                generalize nth xs j = u at *
                have hu0 : (0 : Int) ≤ u + (k : Int) := by omega
                have hw1 : IntKind.i64.wrap (u + (k : Int)) = u + (k : Int) := by rw [IntKind.wrap_i64]; omega
                have hu1 := Int.emod_nonneg (u + (k : Int)) hmz
                have hu2 := Int.emod_lt_of_pos (u + (k : Int)) hqp
                go_wp2_with (at_builtin; refine wpList_append_int _ rfl _ _ rfl wo.heap.size _ _ _ _ _ rfl rfl hown (by omega) hb.size ?_; intro a3 cap3 w3 hown3 hb3)
                go_roundw
                case rel => exact ⟨j + 1, a3, cap3, by omega, by go_num, rfl, by rw [HS.out]; exact hown3, hb.trans hb3⟩
                case measure => simp [intOf]; omega
              · skip
                obtain rfl : j = n_l := by omega
                rw [take_turned HLN.out] at hown
                have st := hb
                clear hb
                replace o_l := o_l.below st (Nat.le_refl _)
                replace o_p := o_p.below st (Nat.le_refl _)
                replace hB := hB.trans (st.mono hB.size)
                replace hV := hV.trans (st.mono hV.size)
                clear st
                by_cases hkb : k = bN
                · skip
                  have HQ : Hid (isSlOf (turn xs (q : Int) (k : Int)) (q : Int) = (true, true)) := hid (by rw [HIK.out]; simp [hkb])
                  have hbe : ((k : Int) == (bN : Int)) = true := by simp [hkb]
                  go_wp2_with fail
                  refine (implIsSl_any _ _ _ _ _ _ hown.has).mono ?_
                  rw [HQ.out]
                  rintro e v11 ⟨rfl, st⟩
                  replace o_l := o_l.below st (Nat.le_refl _)
                  replace o_p := o_p.below st (Nat.le_refl _)
                  replace hB := hB.trans (st.mono hB.size)
                  replace hV := hV.trans (st.mono hV.size)
                  clear st
                  clear hown
                  go_wp2_with fail
                  go_roundw
                  case rel => exact ⟨k + 1, d + 1, by omega, hid (by have := HD.out; rw [if_neg (by omega)] at this; subst this; rw [if_pos (by omega)]), by go_num, by go_num, hV⟩
                  case measure => simp [intOf]; omega
                · skip
                  have HQ : Hid (isSlOf (turn xs (q : Int) (k : Int)) (q : Int) = (false, true)) := hid (by rw [HIK.out]; simp [hkb])
                  have hbe : ((k : Int) == (bN : Int)) = false := by simp; omega
                  go_wp2_with fail
                  refine (implIsSl_any _ _ _ _ _ _ hown.has).mono ?_
                  rw [HQ.out]
                  rintro e v11 ⟨rfl, st⟩
                  replace o_l := o_l.below st (Nat.le_refl _)
                  replace o_p := o_p.below st (Nat.le_refl _)
                  replace hB := hB.trans (st.mono hB.size)
                  replace hV := hV.trans (st.mono hV.size)
                  clear st
                  clear hown
                  go_wp2_with fail
                  go_roundw
                  case rel => exact ⟨k + 1, d, by omega, hid (by have := HD.out; rw [this]; by_cases e : bN < k <;> simp [e] <;> omega), rfl, by go_num, hV⟩
                  case measure => simp [intOf]; omega
          · skip
            obtain rfl : k = q := by omega
            obtain rfl : d = 1 := by rw [HD.out, if_pos hbq]
            clear hV HD
            by_cases he : k = n_l + 1
            · skip
              obtain ⟨f1, f2, f3⟩ := H3.out he
              rw [HZS.out] at f1 f2 f3
              subst he
              have HCL := hid f1
              have HUS := hid f2
              have HPK := hid f3
              clear f1 f2 f3
              have hee : (((n_l + 1 : Nat) : Int) != (n_l : Int) + 1) = false := by simp
              have hse : ((bN : Int) == (bN : Int)) = true := by simp
              go_wp2_with fail
              refine (parkingOfClass_any _ _ _ _ _ o_l.has).mono ?_
              rw [HCL.out]
              rintro e v11 ⟨a_c, n_c, c_c, rfl, o_c, st⟩
              replace o_l := o_l.below st (Nat.le_refl _)
              replace o_p := o_p.below st (Nat.le_refl _)
              replace hB := hB.trans (st.mono hB.size)
              clear st
              go_wp2_with fail
              refine (implUsual_any _ _ _ _ _ o_p.has).mono ?_
              rw [HUS.out]
              rintro e v12 ⟨a_u, n_u, c_u, rfl, o_u, st⟩
              replace o_l := o_l.below st (Nat.le_refl _)
              replace o_p := o_p.below st (Nat.le_refl _)
              replace o_c := o_c.below st (Nat.le_refl _)
              replace hB := hB.trans (st.mono hB.size)
              clear st
              go_wp2_with fail
              refine (wSame_any _ _ _ _ _ _ _ _ _ o_c.has o_p.has).mono ?_
              rintro e v13 ⟨rfl, q⟩
              have st : Below v12.heap.size v12 v13 := q.below _
              replace o_l := o_l.below st (Nat.le_refl _)
              replace o_p := o_p.below st (Nat.le_refl _)
              replace o_c := o_c.below st (Nat.le_refl _)
              replace o_u := o_u.below st (Nat.le_refl _)
              replace hB := hB.trans (st.mono hB.size)
              clear st
              clear q
              rw [same_self]
              clear o_c
              go_wp2_with fail
              refine (wSame_any _ _ _ _ _ _ _ _ _ o_u.has o_p.has).mono ?_
              rintro e v14 ⟨rfl, q⟩
              have st : Below v13.heap.size v13 v14 := q.below _
              replace o_l := o_l.below st (Nat.le_refl _)
              replace o_p := o_p.below st (Nat.le_refl _)
              replace o_u := o_u.below st (Nat.le_refl _)
              replace hB := hB.trans (st.mono hB.size)
              clear st
              clear q
              rw [same_self]
              clear o_u o_l
              go_wp2_with fail
              refine (wParkW_any _ _ _ _ _ o_p.has).mono ?_
              rw [HPK.out]
              rintro e v15 ⟨rfl, st⟩
              replace o_p := o_p.below st (Nat.le_refl _)
              replace hB := hB.trans (st.mono hB.size)
              clear st
              clear o_p
              go_wp2_with fail
              go_ret
              exact ⟨rfl, hB⟩
            · skip
              have hee : ((k : Int) != (n_l : Int) + 1) = true := by simp; omega
              clear o_p o_l
              go_wp2_with fail
              go_ret
              exact ⟨rfl, hB⟩
      · skip
        have HI := hid (isSl_no hM o_m.len)
        clear hM
        go_wp2_with fail
        refine (implIsSl_any _ _ _ _ _ _ o_m.has).mono ?_
        rw [HI.out]
        rintro e v6 ⟨rfl, st⟩
        replace o_l := o_l.below st (Nat.le_refl _)
        replace o_p := o_p.below st (Nat.le_refl _)
        replace o_m := o_m.below st (Nat.le_refl _)
        replace hB := hB.trans (st.mono hB.size)
        clear st
        go_wp2_with fail
        refine (specIsSl_any _ _ _ _ _ _ o_m.has).mono ?_
        rw [HI.out]
        rintro e v7 ⟨rfl, st⟩
        replace o_l := o_l.below st (Nat.le_refl _)
        replace o_p := o_p.below st (Nat.le_refl _)
        replace o_m := o_m.below st (Nat.le_refl _)
        replace hB := hB.trans (st.mono hB.size)
        clear st
        clear o_m
        go_wp2_with fail
        go_loopw [23, 24] (fun fd i wr => ∃ k d : Nat, k ≤ q ∧ Hid (d = if bN < k then 1 else 0) ∧ fd = .int .i64 (d : Int) ∧ i = .int .i64 (k : Int) ∧ Below v7.heap.size v7 wr) (fun _ i _ => q - (intOf i).toNat)
        case atStart => exact ⟨0, 0, by omega, hid (by simp), rfl, rfl, Below.refl _ _⟩
        case round =>
          obtain ⟨wo, rfl⟩ : ∃ wo : World, wo = wr := ⟨_, rfl⟩
          obtain ⟨k, d, hk, HD, rfl, rfl, st⟩ := hrel
          have hV := st
          replace o_l := o_l.below st (Nat.le_refl _)
          replace o_p := o_p.below st (Nat.le_refl _)
          replace hB := hB.trans (st.mono hB.size)
          clear st
          by_cases hlt : k < q
          · skip
            have hIk := HIS.out k hlt
            have HIK := hid hIk
            clear hIk
            have hd1 : d ≤ 1 := by have := HD.out; split at this <;> omega
            have hmz : ¬ (q : Int) = 0 := by omega
            have hqp : (0 : Int) < (q : Int) := by omega
            go_wp2_with fail
            go_loopw [25, 132] (fun o i wr => ∃ (j : Nat) (a' : Option Addr) (cap' : Nat), j ≤ n_l ∧ i = .int .i64 (j : Int) ∧ o = .slice a' j cap' ∧ Own wr wo.heap.size a' j cap' (turn (xs.take j) q k) ∧ Below wo.heap.size wo wr) (fun _ i _ => n_l - (intOf i).toNat)
            case atStart => exact ⟨0, none, 0, by omega, rfl, rfl, Own.nil _ _, Below.refl _ _⟩
            case round =>
              obtain ⟨j, a', cap', hj, rfl, rfl, hown, hb⟩ := hrel
              by_cases hjl : j < n_l
              · skip
                obtain ⟨b0, off, rfl, hbb, hc⟩ := o_l.has.2.2.2.2 (by omega)
                have hck : wr.cell? ⟨b0, off + j, none⟩ = some (.int .i64 (nth xs j)) := by rw [hb.cell (p := ⟨b0, off + j, none⟩) hbb]; exact hc j hjl
                obtain ⟨u0, u1⟩ := HBD0.out j hjl
                have HS := hid (turn_succ (p := (q : Int)) (b := (k : Int)) (k := j) (by rw [HLN.out]; exact hjl))
                clear hc
                generalize nth xs j = u at *
                have hu0 : (0 : Int) ≤ u + (k : Int) := by omega
                have hw1 : IntKind.i64.wrap (u + (k : Int)) = u + (k : Int) := by rw [IntKind.wrap_i64]; omega
                have hu1 := Int.emod_nonneg (u + (k : Int)) hmz
                have hu2 := Int.emod_lt_of_pos (u + (k : Int)) hqp
                go_wp2_with (at_builtin; refine wpList_append_int _ rfl _ _ rfl wo.heap.size _ _ _ _ _ rfl rfl hown (by omega) hb.size ?_; intro a3 cap3 w3 hown3 hb3)
                go_roundw
                case rel => exact ⟨j + 1, a3, cap3, by omega, by go_num, rfl, by rw [HS.out]; exact hown3, hb.trans hb3⟩
                case measure => simp [intOf]; omega
              · skip
                obtain rfl : j = n_l := by omega
                rw [take_turned HLN.out] at hown
                have st := hb
                clear hb
                replace o_l := o_l.below st (Nat.le_refl _)
                replace o_p := o_p.below st (Nat.le_refl _)
                replace hB := hB.trans (st.mono hB.size)
                replace hV := hV.trans (st.mono hV.size)
                clear st
                by_cases hkb : k = bN
                · skip
                  have HQ : Hid (isSlOf (turn xs (q : Int) (k : Int)) (q : Int) = (true, true)) := hid (by rw [HIK.out]; simp [hkb])
                  have hbe : ((k : Int) == (bN : Int)) = true := by simp [hkb]
                  go_wp2_with fail
                  refine (implIsSl_any _ _ _ _ _ _ hown.has).mono ?_
                  rw [HQ.out]
                  rintro e v8 ⟨rfl, st⟩
                  replace o_l := o_l.below st (Nat.le_refl _)
                  replace o_p := o_p.below st (Nat.le_refl _)
                  replace hB := hB.trans (st.mono hB.size)
                  replace hV := hV.trans (st.mono hV.size)
                  clear st
                  clear hown
                  go_wp2_with fail
                  go_roundw
                  case rel => exact ⟨k + 1, d + 1, by omega, hid (by have := HD.out; rw [if_neg (by omega)] at this; subst this; rw [if_pos (by omega)]), by go_num, by go_num, hV⟩
                  case measure => simp [intOf]; omega
                · skip
                  have HQ : Hid (isSlOf (turn xs (q : Int) (k : Int)) (q : Int) = (false, true)) := hid (by rw [HIK.out]; simp [hkb])
                  have hbe : ((k : Int) == (bN : Int)) = false := by simp; omega
                  go_wp2_with fail
                  refine (implIsSl_any _ _ _ _ _ _ hown.has).mono ?_
                  rw [HQ.out]
                  rintro e v8 ⟨rfl, st⟩
                  replace o_l := o_l.below st (Nat.le_refl _)
                  replace o_p := o_p.below st (Nat.le_refl _)
                  replace hB := hB.trans (st.mono hB.size)
                  replace hV := hV.trans (st.mono hV.size)
                  clear st
                  clear hown
                  go_wp2_with fail
                  go_roundw
                  case rel => exact ⟨k + 1, d, by omega, hid (by have := HD.out; rw [this]; by_cases e : bN < k <;> simp [e] <;> omega), rfl, by go_num, hV⟩
                  case measure => simp [intOf]; omega
          · skip
            obtain rfl : k = q := by omega
            obtain rfl : d = 1 := by rw [HD.out, if_pos hbq]
            clear hV HD
            by_cases he : k = n_l + 1
            · skip
              obtain ⟨f1, f2, f3⟩ := H3.out he
              rw [HZS.out] at f1 f2 f3
              subst he
              have HCL := hid f1
              have HUS := hid f2
              have HPK := hid f3
              clear f1 f2 f3
              have hee : (((n_l + 1 : Nat) : Int) != (n_l : Int) + 1) = false := by simp
              have hse : ((bN : Int) == (bN : Int)) = true := by simp
              go_wp2_with fail
              refine (parkingOfClass_any _ _ _ _ _ o_l.has).mono ?_
              rw [HCL.out]
              rintro e v8 ⟨a_c, n_c, c_c, rfl, o_c, st⟩
              replace o_l := o_l.below st (Nat.le_refl _)
              replace o_p := o_p.below st (Nat.le_refl _)
              replace hB := hB.trans (st.mono hB.size)
              clear st
              go_wp2_with fail
              refine (implUsual_any _ _ _ _ _ o_p.has).mono ?_
              rw [HUS.out]
              rintro e v9 ⟨a_u, n_u, c_u, rfl, o_u, st⟩
              replace o_l := o_l.below st (Nat.le_refl _)
              replace o_p := o_p.below st (Nat.le_refl _)
              replace o_c := o_c.below st (Nat.le_refl _)
              replace hB := hB.trans (st.mono hB.size)
              clear st
              go_wp2_with fail
              refine (wSame_any _ _ _ _ _ _ _ _ _ o_c.has o_p.has).mono ?_
              rintro e v10 ⟨rfl, q⟩
              have st : Below v9.heap.size v9 v10 := q.below _
              replace o_l := o_l.below st (Nat.le_refl _)
              replace o_p := o_p.below st (Nat.le_refl _)
              replace o_c := o_c.below st (Nat.le_refl _)
              replace o_u := o_u.below st (Nat.le_refl _)
              replace hB := hB.trans (st.mono hB.size)
              clear st
              clear q
              rw [same_self]
              clear o_c
              go_wp2_with fail
              refine (wSame_any _ _ _ _ _ _ _ _ _ o_u.has o_p.has).mono ?_
              rintro e v11 ⟨rfl, q⟩
              have st : Below v10.heap.size v10 v11 := q.below _
              replace o_l := o_l.below st (Nat.le_refl _)
              replace o_p := o_p.below st (Nat.le_refl _)
              replace o_u := o_u.below st (Nat.le_refl _)
              replace hB := hB.trans (st.mono hB.size)
              clear st
              clear q
              rw [same_self]
              clear o_u o_l
              go_wp2_with fail
              refine (wParkW_any _ _ _ _ _ o_p.has).mono ?_
              rw [HPK.out]
              rintro e v12 ⟨rfl, st⟩
              replace o_p := o_p.below st (Nat.le_refl _)
              replace hB := hB.trans (st.mono hB.size)
              clear st
              clear o_p
              go_wp2_with fail
              go_ret
              exact ⟨rfl, hB⟩
            · skip
              have hee : ((k : Int) != (n_l : Int) + 1) = true := by simp; omega
              clear o_p o_l
              go_wp2_with fail
              go_ret
              exact ⟨rfl, hB⟩
    · skip
      have HTN := hid (turnSl_not hT o_l.len)
      clear hT
      go_wp2_with fail
      refine (implTurnSl_any _ _ _ _ _ _ o_l.has).mono ?_
      rw [HTN.out]
      rintro e v2 ⟨a_p, n_p, c_p, rfl, o_p, st⟩
      replace o_l := o_l.below st (Nat.le_refl _)
      replace hB := hB.trans (st.mono hB.size)
      clear st
      go_wp2_with fail
      refine (specTurnSl_any _ _ _ _ _ _ o_l.has).mono ?_
      rw [HTN.out]
      rintro e v3 ⟨a_r, n_r, c_r, rfl, o_r, st⟩
      replace o_l := o_l.below st (Nat.le_refl _)
      replace o_p := o_p.below st (Nat.le_refl _)
      replace hB := hB.trans (st.mono hB.size)
      clear st
      go_wp2_with fail
      refine (wSame_any _ _ _ _ _ _ _ _ _ o_p.has o_r.has).mono ?_
      rintro e v4 ⟨rfl, q⟩
      have st : Below v3.heap.size v3 v4 := q.below _
      replace o_l := o_l.below st (Nat.le_refl _)
      replace o_p := o_p.below st (Nat.le_refl _)
      replace o_r := o_r.below st (Nat.le_refl _)
      replace hB := hB.trans (st.mono hB.size)
      clear st
      clear q
      rw [same_self]
      clear o_r
      clear o_p o_l
      go_wp2_with fail
      refine (drawIsSl_any b m cap' _ (HM.out.grow hB (Nat.le_refl _))).mono ?_
      rintro e v5 ⟨a_m, n_m, c_m, ys, wd, rfl, o_m, hnm2, d0, d1, st⟩
      replace hB := hB.trans (st.mono hB.size)
      clear st
      by_cases hM : slB (n_m : Int) wd = true
      · skip
        obtain ⟨x, f1, f2⟩ := isSl_yes hM o_m.len
        have HI := hid f1
        have HBD := hid f2
        have hxx : (x != x) = false := by simp
        clear f1 f2 hM
        go_wp2_with fail
        refine (implIsSl_any _ _ _ _ _ _ o_m.has).mono ?_
        rw [HI.out]
        rintro e v6 ⟨rfl, st⟩
        replace o_m := o_m.below st (Nat.le_refl _)
        replace hB := hB.trans (st.mono hB.size)
        clear st
        go_wp2_with fail
        refine (specIsSl_any _ _ _ _ _ _ o_m.has).mono ?_
        rw [HI.out]
        rintro e v7 ⟨rfl, st⟩
        replace o_m := o_m.below st (Nat.le_refl _)
        replace hB := hB.trans (st.mono hB.size)
        clear st
        go_wp2_with fail
        refine (implBounds_any _ _ _).mono ?_
        rw [HBD.out]
        rintro e v8 ⟨a_b, n_b, c_b, rfl, o_b, st⟩
        replace o_m := o_m.below st (Nat.le_refl _)
        replace hB := hB.trans (st.mono hB.size)
        clear st
        go_wp2_with fail
        refine (specBounds_any _ _ _).mono ?_
        rw [HBD.out]
        rintro e v9 ⟨a_d, n_d, c_d, rfl, o_d, st⟩
        replace o_m := o_m.below st (Nat.le_refl _)
        replace o_b := o_b.below st (Nat.le_refl _)
        replace hB := hB.trans (st.mono hB.size)
        clear st
        go_wp2_with fail
        refine (wSame_any _ _ _ _ _ _ _ _ _ o_b.has o_d.has).mono ?_
        rintro e v10 ⟨rfl, q⟩
        have st : Below v9.heap.size v9 v10 := q.below _
        replace o_m := o_m.below st (Nat.le_refl _)
        replace o_b := o_b.below st (Nat.le_refl _)
        replace o_d := o_d.below st (Nat.le_refl _)
        replace hB := hB.trans (st.mono hB.size)
        clear st
        clear q
        rw [same_self]
        clear o_b o_d o_m
        go_wp2_with fail
        go_ret
        exact ⟨rfl, hB⟩
      · skip
        have HI := hid (isSl_no hM o_m.len)
        clear hM
        go_wp2_with fail
        refine (implIsSl_any _ _ _ _ _ _ o_m.has).mono ?_
        rw [HI.out]
        rintro e v6 ⟨rfl, st⟩
        replace o_m := o_m.below st (Nat.le_refl _)
        replace hB := hB.trans (st.mono hB.size)
        clear st
        go_wp2_with fail
        refine (specIsSl_any _ _ _ _ _ _ o_m.has).mono ?_
        rw [HI.out]
        rintro e v7 ⟨rfl, st⟩
        replace o_m := o_m.below st (Nat.le_refl _)
        replace hB := hB.trans (st.mono hB.size)
        clear st
        clear o_m
        go_wp2_with fail
        go_ret
        exact ⟨rfl, hB⟩
end Go.Proofs.Ytfkejkkplafciad


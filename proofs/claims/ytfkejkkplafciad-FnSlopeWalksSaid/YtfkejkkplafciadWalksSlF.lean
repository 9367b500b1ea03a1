/- The law of slope walks, walked. -/
import Derived.Test.YtfkejkkplafciadCur
import Derived.Test.YtfkejkkplafciadSpecS
import Derived.Test.YtfkejkkplafciadMathT
import Derived.Test.YtfkejkkplafciadDrawSm
import Derived.Test.YtfkejkkplafciadSpecSl
import Derived.Test.YtfkejkkplafciadPii
import Derived.Test.YtfkejkkplafciadLawKit
import Derived.Test.YtfkejkkplafciadMathC
import Derived.IntWalk
import Derived.Test.YtfkejkkplafciadHelp
import Derived.Test.YtfkejkkplafciadMath1
import Derived.Test.YtfkejkkplafciadImplSl
import Derived.Test.YtfkejkkplafciadMathSn
import Derived.Test.YtfkejkkplafciadImplAs
import Derived.Test.YtfkejkkplafciadSpecAl
import Derived.Deep.RegionWith
import Derived.Test.YtfkejkkplafciadSpecA
import Derived.Test.YtfkejkkplafciadHelp2
import Derived.Test.YtfkejkkplafciadMathQ
import Derived.Test.YtfkejkkplafciadImplSw
import Derived.Test.YtfkejkkplafciadSpecSw
namespace Go.Proofs.Ytfkejkkplafciad
open Go.RowKit

theorem HasB.below {w w' : World} {a : Option Addr} {n K : Nat} (h : HasB w a n K) (hb : Below K w w') : HasB w' a n K := by
  refine ⟨h.1, fun hx => ?_⟩
  obtain ⟨b, off, ha, hbk, hc⟩ := h.2 hx
  refine ⟨b, off, ha, hbk, fun i hi => ?_⟩
  obtain ⟨u, u0, u1, hu⟩ := hc i hi
  exact ⟨u, u0, u1, by rw [hb.cell (p := ⟨b, off + i, none⟩) hbk]; exact hu⟩

/-- An argument's slice of bytes. -/
theorem hasB_of_row {w : World} {a : Option Addr} {len cap : Nat} {zs : List Int}
    (h : (a = none ∧ len = 0 ∧ cap = 0 ∧ zs = []) ∨ ∃ x, a = some x ∧ len ≤ cap ∧ cap ≤ maxLen ∧ zs.length = cap ∧ (∀ i, i < zs.length → w.cell? (x.add i) = some (.int .u8 (zs.getD i 0))) ∧ ∀ n ∈ zs, (Lit.int .u8 n).wf = true) :
    len ≤ maxLen ∧ (len ≤ 1048576 → HasB w a len w.heap.size) := by
  rcases h with ⟨rfl, rfl, rfl, rfl⟩ | ⟨x, rfl, h1, h2, h3, h4, h5⟩
  · exact ⟨by unfold maxLen; omega, fun _ => ⟨by omega, by omega⟩⟩
  · refine ⟨by omega, fun hl => ⟨by omega, fun hx => ?_⟩⟩
    obtain ⟨b, off, spot⟩ := x
    have hc := h4 0 (by omega)
    have hspot : spot = none := by simpa [Addr.add] using World.cell?_spot hc
    subst hspot
    refine ⟨b, off, rfl, by have := World.block_lt_of_cell? w _ hc; simpa [Addr.add] using this, fun i hi => ?_⟩
    have := h4 i (by omega)
    have e : (⟨b, off, none⟩ : Addr).add i = ⟨b, off + i, none⟩ := by unfold Addr.add; split <;> simp_all
    rw [e] at this
    have hm : zs.getD i 0 ∈ zs := by simp [show i < zs.length by omega]
    have hw := h5 _ hm
    generalize zs.getD i 0 = u at *
    have hw' : (0 : Int) ≤ u ∧ u ≤ 255 := by simpa [Lit.wf, IntKind.min, IntKind.max, IntKind.signed, IntKind.bits] using hw
    exact ⟨u, hw'.1, hw'.2, this⟩

/-- The law's answer. -/
def Holds (w : World) (e : Ending) (w' : World) : Prop := e = .returned (.bool true) ∧ Below w.heap.size w w'
end Go.Proofs.Ytfkejkkplafciad

namespace Go.Proofs.Ytfkejkkplafciad
open Go.RowKit

/-- Whether the bytes are too many. -/
def Big (n m : Nat) (w : World) (e : Ending) (w' : World) : Prop := ∃ r : Bool, e = .returned (.bool r) ∧ (r = false → n + m ≤ 1048576) ∧ w = w'

theorem big_any (a b : Option Addr) (n m cap cap' : Nat) (w : World) (hn : n ≤ 9223372036854775807) :
    Calls Try.prog 7 #[.slice a n cap, .slice b m cap'] w (Big n m w) := by
  by_cases h1 : (1048576 : Int) < (n : Int)
  · go_enter Try.func7, Try.ntmps7
    go_wp2_with fail
    go_ret
    exact ⟨true, ret_bool (by simp), by simp, rfl⟩
  · by_cases h2 : (1048576 : Int) - n < (m : Int)
    · go_enter Try.func7, Try.ntmps7
      go_wp2_with fail
      go_ret
      exact ⟨true, ret_bool (by simp), by simp, rfl⟩
    · go_enter Try.func7, Try.ntmps7
      go_wp2_with fail
      go_ret
      exact ⟨false, ret_bool (by simp), fun _ => by omega, rfl⟩

end Go.Proofs.Ytfkejkkplafciad

namespace Go.Proofs.Ytfkejkkplafciad
open Go.RowKit

set_option maxRecDepth 100000 in
set_option maxHeartbeats 1600000 in
theorem slantedWalk_cur (g t : Nat) (w : World) (h : Cur w g t) (ht : t ≤ 800) :
    Calls Try.prog 84 #[.pointer (some ⟨g, 0, none⟩)] w fun e w' => ∃ a n cap xs, ∃ u : Int, e = .returned (.tuple #[.slice a n cap, .int .i64 u]) ∧ Own w' (g + 1) a n cap xs ∧ n ≤ 10 ∧ -1 ≤ u ∧ u ≤ 14 ∧ Below g w w' := by
  have hgl := h.lt
  go_enter Try.func84, Try.ntmps84
  go_wp2_with fail
  refine (slanted_cur g t _ h ht).mono ?_
  rintro e w1 ⟨a_l, n_l, c_l, xs, u, t1, rfl, o_l, hn, u0, u1, A1, ht1⟩
  have hgw := A1.cur.lt
  have hb1 := A1.below
  clear A1
  by_cases hg : goodSl xs u = true
  · have HG := hid hg
    clear hg
    go_wp2_with fail
    refine (slGood_any _ _ _ _ _ _ o_l.has).mono ?_
    rw [HG.out]
    rintro e w2 ⟨rfl, st⟩
    replace o_l := o_l.below st (Nat.le_refl _)
    have hgw2 : g < w2.heap.size := Nat.lt_of_lt_of_le hgw st.size
    have hb2 := hb1.trans (st.mono (Nat.le_of_lt hgw))
    clear st
    go_wp2_with fail
    refine (paSorted_any _ _ _ _ _ o_l.has (by omega)).mono ?_
    rintro e w3 ⟨a3, cap3, rfl, o3, st⟩
    go_wp2_with fail
    go_ret2
    exact ⟨_, _, _, _, _, rfl, o3.mono hgw2, hn, u0, u1, hb2.trans (st.mono (Nat.le_of_lt hgw2))⟩
  · have HG := hid (Bool.eq_false_iff.2 hg)
    clear hg
    go_wp2_with fail
    refine (slGood_any _ _ _ _ _ _ o_l.has).mono ?_
    rw [HG.out]
    rintro e w2 ⟨rfl, st⟩
    replace o_l := o_l.below st (Nat.le_refl _)
    have hb2 := hb1.trans (st.mono (Nat.le_of_lt hgw))
    go_wp2_with fail
    go_ret2
    exact ⟨_, _, _, _, _, rfl, o_l, hn, u0, u1, hb2⟩

theorem drawTurnWk_any (a : Option Addr) (n cap : Nat) (w : World) (h : HasB w a n w.heap.size) :
    Calls Try.prog 37 #[.slice a n cap] w (DrewSlL w) := by
  have C0 := cur_new (cap := cap) h
  have hb0 := freshB w a n cap
  go_enter Try.func37, Try.ntmps37
  go_wp2_with fail
  refine (slantedWalk_cur _ 0 _ C0 (by omega)).mono ?_
  rintro e w1 ⟨a_l, n_l, c_l, xs, u, rfl, o_l, hn, u0, u1, hb1⟩
  have hb := hb0.trans hb1
  have o2 := o_l.mono (Nat.le_succ _)
  go_wp2_with fail
  go_ret2
  exact ⟨_, _, _, _, _, rfl, o2, hn, u0, u1, hb⟩
end Go.Proofs.Ytfkejkkplafciad

namespace Go.Proofs.Ytfkejkkplafciad
open Go.RowKit

theorem good_turn {n q s : Nat} {xs : List Int} (hs : slN n q = true) (hl : xs.length = n) : goodSl (turn xs q s) q = und (bnds n q) (turn xs q s) := by
  have : (turn xs q s).length = n := by simp [turn, hl]
  simp [goodSl, this, slB_nat, hs]

set_option maxHeartbeats 800000 in
theorem slTurned_any (a : Option Addr) (n cap : Nat) (xs : List Int) (q s : Nat) (w : World) (h : Has w a n cap xs) (hn : n ≤ 6) (hq : 1 ≤ q ∧ q ≤ 13) (hs : s ≤ 13) (hx : Hid (∀ i, i < n → 0 ≤ nth xs i ∧ nth xs i < (q : Int))) :
    Calls Try.prog 102 #[.slice a n cap, .int .i64 (q : Int), .int .i64 (s : Int)] w fun e w' => ∃ a' cap', e = .returned (.slice a' n cap') ∧ Own w' w.heap.size a' n cap' (turn xs q s) ∧ Below w.heap.size w w' := by
  have HL := hid h.len
  have hq0 : ¬ (q : Int) = 0 := by omega
  go_enter Try.func102, Try.ntmps102
  go_wp2_with fail
  go_loopw [7, 12] (fun o i wr => ∃ (k : Nat) (a' : Option Addr) (cap' : Nat), k ≤ n ∧ i = .int .i64 (k : Int) ∧ o = .slice a' k cap' ∧ Own wr w.heap.size a' k cap' (turn (xs.take k) q s) ∧ Below w.heap.size w wr) (fun _ i _ => n - (intOf i).toNat)
  case atStart => exact ⟨0, none, 0, Nat.zero_le _, rfl, rfl, Own.nil _ _, Below.refl _ _⟩
  case round =>
    obtain ⟨k, a', cap', hk, rfl, rfl, hown, hb⟩ := hrel
    by_cases hlt : k < n
    · obtain ⟨b, off, rfl, hbb, hc⟩ := h.2.2.2.2 (by omega)
      have hck : wr.cell? ⟨b, off + k, none⟩ = some (.int .i64 (nth xs k)) := by rw [hb.cell (p := ⟨b, off + k, none⟩) hbb]; exact hc k hlt
      have HS := hid (turn_succ (xs := xs) (p := (q : Int)) (b := (s : Int)) (k := k) (by rw [HL.out]; exact hlt))
      obtain ⟨x0, x1⟩ := hx.out k hlt
      have m0 : 0 ≤ nth xs k + (s : Int) := by omega
      have m1 := Int.emod_nonneg (nth xs k + (s : Int)) hq0
      have m2 := Int.emod_lt_of_pos (nth xs k + (s : Int)) (show (0 : Int) < (q : Int) by omega)
      have hsz := hb.size
      clear hc
      go_wp2_with (at_builtin; refine wpList_append_int _ rfl _ _ rfl w.heap.size _ _ _ _ _ rfl rfl hown (by omega) hsz ?_; intro a4 cap4 w4 hown4 hb4)
      go_roundw
      case rel => exact ⟨k + 1, a4, cap4, by omega, by go_num, rfl, by rw [HS.out]; exact hown4, hb.trans hb4⟩
      case measure => simp [intOf]; omega
    · obtain rfl : n = k := by omega
      have HE : Hid (xs.take n = xs) := hid (List.take_of_length_le (by rw [HL.out]; exact Nat.le_refl _))
      rw [HE.out] at hown
      go_wp2_with fail
      go_ret
      exact ⟨a', cap', rfl, hown, hb⟩

set_option maxHeartbeats 800000 in
theorem slTurn_any (a : Option Addr) (n cap : Nat) (xs : List Int) (q : Nat) (w : World) (h : Has w a n cap xs) (hs : Hid (slN n q = true)) (hx : Hid (∀ i, i < n → 0 ≤ nth xs i ∧ nth xs i < (q : Int))) :
    Calls Try.prog 75 #[.slice a n cap, .int .i64 (q : Int)] w fun e w' => ∃ a' cap', e = .returned (.tuple #[.slice a' n cap', .int .i64 (slBy n q xs : Int)]) ∧ Own w' w.heap.size a' n cap' (turn xs q (slBy n q xs)) ∧ Below w.heap.size w w' := by
  obtain ⟨⟨n0, n1⟩, hq, -⟩ := slN_iff.1 hs.out
  have HL := hid h.len
  obtain ⟨t0, t1, t2⟩ := slBy_good hs.out HL.out (fun x hx' => by obtain ⟨i, hi, rfl⟩ := mem_nth hx'; exact hx.out i (by rw [← HL.out]; exact hi))
  have HG := hid (fun s => good_turn (s := s) hs.out HL.out)
  obtain ⟨S, hS⟩ : ∃ S, slBy n q xs = S := ⟨_, rfl⟩
  rw [hS] at t0 t1 t2 ⊢
  have T1 : Hid (goodSl (turn xs q S) q = true) := hid (by rw [HG.out]; exact t1)
  have T2 : Hid (∀ j : Nat, j < S → goodSl (turn xs q j) q = false) := hid (fun j hj => by rw [HG.out]; exact t2 j hj)
  have HSS := hid hS
  clear t1 t2 hS
  go_enter Try.func75, Try.ntmps75
  go_wp2_with fail
  go_loopw [6] (fun i wr => ∃ k : Nat, k ≤ S ∧ i = .int .i64 (k : Int) ∧ Below w.heap.size w wr) (fun i _ => S - (intOf i).toNat)
  case atStart => exact ⟨0, Nat.zero_le _, rfl, Below.refl _ _⟩
  case round =>
    obtain ⟨k, hk, rfl, hb⟩ := hrel
    have hh := h.below hb (Nat.le_refl _)
    have hsz := hb.size
    go_wp2_with fail
    refine (slTurned_any _ _ _ _ q k _ hh n1 hq (by omega) hx).mono ?_
    rintro e w1 ⟨a1, cap1, rfl, hown1, hb1⟩
    have hb01 := hb.trans (hb1.mono hsz)
    go_wp2_with fail
    refine (slGood_any _ _ _ _ _ _ hown1.has).mono ?_
    rintro e w2 ⟨rfl, hb2⟩
    have hb02 := hb01.trans (hb2.mono hb01.size)
    by_cases hlt : k < S
    · rw [T2.out k hlt]
      go_wp2_with fail
      go_roundw
      case rel => exact ⟨k + 1, by omega, by go_num, hb02⟩
      case measure => simp [intOf]; omega
    · obtain rfl : S = k := by omega
      rw [T1.out]
      have hh2 := h.below hb02 (Nat.le_refl _)
      go_wp2_with fail
      refine (slTurned_any _ _ _ _ q S _ hh2 n1 hq (by omega) hx).mono ?_
      rintro e w3 ⟨a3, cap3, rfl, hown3, hb3⟩
      go_wp2_with fail
      go_ret2
      exact ⟨a3, cap3, rfl, hown3.mono hb02.size, hb02.trans (hb3.mono hb02.size)⟩
theorem turnSl_yes {xs : List Int} {n q : Nat} (hl : xs.length = n) (hs : slN n q = true) (h : allB xs 0 ((q : Int) - 1) = true) : turnSlOf xs q = (turn xs q (slBy n q xs), (slBy n q xs : Int), true) := by
  subst hl
  simp [turnSlOf, slB_nat, hs, h]
theorem turnSl_no1 {xs : List Int} {a : Int} (h : ¬ slB xs.length a = true) : turnSlOf xs a = ([], 0, false) := by simp [turnSlOf, h]
theorem turnSl_no2 {xs : List Int} {a : Int} (h : ¬ allB xs 0 (a - 1) = true) : turnSlOf xs a = ([], 0, false) := by simp [turnSlOf, h]

set_option maxHeartbeats 800000 in
theorem specTurnSl_any (a : Option Addr) (n cap : Nat) (xs : List Int) (ac : Int) (w : World) (h : Has w a n cap xs) :
    Calls Try.prog 24 #[.slice a n cap, .int .i64 ac] w (PostIntsInt w (turnSlOf xs ac)) := by
  have hlen := h.len
  by_cases h1 : slB (n : Int) ac = true
  · obtain ⟨q, rfl, hs, hn, hq⟩ := slB_parts h1
    by_cases h2 : allB xs 0 ((q : Int) - 1) = true
    · have HR := hid (turnSl_yes hlen hs h2)
      have HX : Hid (∀ i, i < n → 0 ≤ nth xs i ∧ nth xs i < (q : Int)) := hid (fun i hi => by have := allB_nth h2 (k := i) (by omega); omega)
      have HS := hid hs
      have H1 := hid h1
      have H2 := hid h2
      clear h1 h2 hlen hs
      go_enter Try.func24, Try.ntmps24
      go_wp2_with (first | (go_at_call 53; refine (slIs_any _ _ _).mono ?_; rintro e w' ⟨rfl, rfl⟩; rw [H1.out]) | (go_at_call 74; refine (l1All_any _ _ _ _ _ _ _ h).mono ?_; rintro e w' ⟨rfl, rfl⟩; rw [H2.out]))
      refine (slTurn_any _ _ _ _ _ _ h HS HX).mono ?_
      rintro e w1 ⟨a1, cap1, rfl, hown1, hb1⟩
      go_wp2_with fail
      exact bodyPost_ret (v := .tuple #[.slice a1 n cap1, .int .i64 (slBy n q xs : Int), .bool true]) (by simp [results, Try.results24, go_sem]) rfl (postIntsInt HR.out hown1 hb1)
    · have HR := hid (turnSl_no2 h2)
      have H1 := hid h1
      have H2 := hid h2
      clear h1 h2 hlen hs
      go_enter Try.func24, Try.ntmps24
      go_wp2_with (first | (go_at_call 53; refine (slIs_any _ _ _).mono ?_; rintro e w' ⟨rfl, rfl⟩; rw [H1.out]) | (go_at_call 74; refine (l1All_any _ _ _ _ _ _ _ h).mono ?_; rintro e w' ⟨rfl, rfl⟩; rw [Bool.eq_false_iff.2 H2.out]))
      exact bodyPost_ret (v := .tuple #[.slice none 0 0, .int .i64 0, .bool false]) (by simp [results, Try.results24, go_sem]) rfl (postIntsInt HR.out (Own.nil _ _) (Below.refl _ _))
  · have HR := hid (turnSl_no1 (xs := xs) (a := ac) (by rw [hlen]; exact h1))
    have H1 := hid h1
    clear h1 hlen
    go_enter Try.func24, Try.ntmps24
    go_wp2_with (go_at_call 53; refine (slIs_any _ _ _).mono ?_; rintro e w' ⟨rfl, rfl⟩; rw [Bool.eq_false_iff.2 H1.out])
    exact bodyPost_ret (v := .tuple #[.slice none 0 0, .int .i64 0, .bool false]) (by simp [results, Try.results24, go_sem]) rfl (postIntsInt HR.out (Own.nil _ _) (Below.refl _ _))

end Go.Proofs.Ytfkejkkplafciad

namespace Go.Proofs.Ytfkejkkplafciad
open Go.RowKit

theorem lenTurn (xs : List Int) (p b : Int) : (turn xs p b).length = xs.length := by simp [turn]
theorem nthTurn {xs : List Int} {p b : Int} {i : Nat} (h : i < xs.length) : nth (turn xs p b) i = (nth xs i + b) % p := by simp [nth, turn, h]
theorem turn_tmod5 (x b p : Int) : (x + b.tmod p) % p = (x + b) % p := by
  have h1 := Int.tmod_add_mul_tdiv b p
  conv => rhs; rw [← h1]
  rw [← Int.add_assoc, Int.add_mul_emod_self_left]

set_option maxHeartbeats 800000 in
theorem turnedBy_any (a : Option Addr) (n cap : Nat) (xs : List Int) (q : Nat) (b : Int) (w : World) (h : Has w a n cap xs) (hn : n ≤ 1000) (hq : 1 ≤ q ∧ q ≤ 13) (hx : Hid (∀ i, i < n → 0 ≤ nth xs i ∧ nth xs i < (q : Int))) :
    Calls Try.prog 73 #[.slice a n cap, .int .i64 (q : Int), .int .i64 b] w fun e w' => ∃ a' cap', e = .returned (.slice a' n cap') ∧ Own w' w.heap.size a' n cap' (turn xs q b) ∧ Below w.heap.size w w' := by
  have HL := hid h.len
  have hq0 : ¬ (q : Int) = 0 := by omega
  have hp1 : (0 : Int) < (q : Int) := by omega
  have t0 : -(q : Int) < b.tmod (q : Int) := Int.lt_tmod_of_pos b hp1
  have t1 : b.tmod (q : Int) < (q : Int) := Int.tmod_lt_of_pos b hp1
  go_enter Try.func73, Try.ntmps73
  go_wp2_with (at_make; refine wpList_make_ints _ rfl _ _ rfl n rfl rfl (by omega) ?_; intro a1 cap1 w1 hown1 hb1)
  go_loopw [15] (fun i wr => ∃ (k : Nat) (zs : List Int), k ≤ n ∧ i = .int .i64 (k : Int) ∧ Own wr w.heap.size a1 n cap1 zs ∧ Hid (FromTo (turn xs q b) zs k) ∧ Below w.heap.size w wr) (fun i _ => n - (intOf i).toNat)
  case atStart => exact ⟨0, _, Nat.zero_le _, rfl, hown1, hid (fun i hi => by omega), hb1⟩
  case round =>
    clear hown1 hb1
    obtain ⟨k, zs, hk, rfl, hz, HF, hb'⟩ := hrel
    by_cases hlt : k < n
    · obtain ⟨bk, off, rfl, hbb, hc⟩ := h.2.2.2.2 (by omega)
      have hck : wr.cell? ⟨bk, off + k, none⟩ = some (.int .i64 (nth xs k)) := by rw [hb'.cell (p := ⟨bk, off + k, none⟩) hbb]; exact hc k hlt
      obtain ⟨x0, x1⟩ := hx.out k hlt
      obtain ⟨g', rfl, hl1, hl2, hl3, hl4⟩ := hz.opened (by omega)
      have hgk := hl3 k (by omega)
      have hgf := hl4 k
      have HT := hid (turn_tmod5 (nth xs k) b q)
      have hm0 : 0 ≤ nth xs k + b.tmod q + q := by omega
      clear hc hl3 hl4
      go_wp2_with fail
      go_roundw
      case rel =>
        obtain ⟨s1, s2⟩ := hz.set k ((nth xs k + b.tmod q) % q)
        refine ⟨k + 1, _, by omega, by go_num, s1, hid ?_, hb'.setCell hl1 _⟩
        intro i hi
        rw [nth_set (by rw [hz.len]; omega), nthTurn (by rw [HL.out]; omega)]
        split
        · subst_vars; rw [HT.out]
        · rw [HF.out i (by omega), nthTurn (by rw [HL.out]; omega)]
      case measure => simp [intOf]; omega
    · obtain rfl : n = k := by omega
      have HE : Hid (turn xs q b = zs) := hid (ext_nth (by rw [lenTurn, hz.len, HL.out]) (fun i hi => (HF.out i (by rw [lenTurn, HL.out] at hi; exact hi)).symm))
      go_wp2_with fail
      go_ret
      exact ⟨a1, cap1, rfl, by rw [HE.out]; exact hz, hb'⟩
end Go.Proofs.Ytfkejkkplafciad

namespace Go.Proofs.Ytfkejkkplafciad
open Go.RowKit

set_option maxHeartbeats 400000 in
theorem aCars_any (a : Option Addr) (n cap : Nat) (xs : List Int) (bd : Int) (w : World) (h : Has w a n cap xs) :
    Calls Try.prog 101 #[.slice a n cap, .int .i64 bd] w fun e w' => e = .returned (.bool (carsB xs bd)) ∧ w = w' := by
  obtain ⟨h0, h1, h2, h3, h4⟩ := h
  by_cases h8 : n ≤ 8
  · go_enter Try.func101, Try.ntmps101
    go_wp2_with fail
    go_loop [12] (fun i => ∃ k : Nat, k ≤ n ∧ i = .int .i64 k ∧ allB (xs.take k) 0 (bd - 1) = true) (fun i => n - (intOf i).toNat)
    case atStart => exact ⟨0, Nat.zero_le _, rfl, rfl⟩
    case round =>
      obtain ⟨k, hk, rfl, hrel⟩ := hrel
      have HR := hid hrel
      clear hrel
      by_cases hlt : k < n
      · obtain ⟨b, off, rfl, hb, hc⟩ := h4 (by omega)
        have hck := hc k hlt
        clear hc h4
        by_cases h5 : nth xs k < 0
        · have HN := hid (allB_no (xs := xs) (lo := 0) (hi := bd - 1) (k := k) (by omega) (by rw [inB_not]; omega))
          go_wp2_with fail
          go_ret
          exact ⟨ret_bool (by simp [carsB, HN.out]), rfl⟩
        · by_cases h6 : bd ≤ nth xs k
          · have HN := hid (allB_no (xs := xs) (lo := 0) (hi := bd - 1) (k := k) (by omega) (by rw [inB_not]; omega))
            go_wp2_with fail
            go_ret
            exact ⟨ret_bool (by simp [carsB, HN.out]), rfl⟩
          · have HS := hid (allB_succ (xs := xs) (k := k) (by omega) HR.out (by rw [inB_iff]; omega))
            go_wp2_with fail
            go_round
            case rel => exact ⟨k + 1, by omega, by go_num, HS.out⟩
            case measure => simp [intOf]; omega
      · go_wp2_with fail
        go_ret
        exact ⟨ret_bool (by have := HR.out; rw [List.take_of_length_le (by omega)] at this; simp [carsB, this, h0, h8]), rfl⟩
  · go_enter Try.func101, Try.ntmps101
    go_wp2_with fail
    go_ret
    exact ⟨ret_bool (by simp [carsB, h0, h8]), rfl⟩

end Go.Proofs.Ytfkejkkplafciad

namespace Go.Proofs.Ytfkejkkplafciad
open Go.RowKit

theorem cars_all {xs : List Int} {n : Nat} {b : Int} (hl : xs.length = n) (hn : n ≤ 8) : carsB xs b = allB xs 0 (b - 1) := by
  simp [carsB, hl, hn]

set_option maxHeartbeats 800000 in
theorem canTurn_any (a : Option Addr) (n cap : Nat) (xs : List Int) (ac : Int) (w : World) (h : Has w a n cap xs) :
    Calls Try.prog 72 #[.agg #[.int .i64 (n : Int), .int .i64 ac], .slice a n cap] w fun e w' => e = .returned (.bool (slB (n : Int) ac && allB xs 0 (ac - 1))) ∧ Below w.heap.size w w' := by
  have hb0 := (Below.refl w.heap.size w).alloc (Nat.le_refl _) (.cells #[.int .i64 (n : Int), .int .i64 ac] 71)
  have B0 := boxAt_new w (.int .i64 (n : Int)) (.int .i64 ac) 71
  obtain ⟨W, hW⟩ : ∃ W, w.alloc (.cells #[.int .i64 (n : Int), .int .i64 ac] 71) = W := ⟨_, rfl⟩
  rw [hW] at hb0 B0
  obtain ⟨_, _, _, _⟩ := id B0
  by_cases h1 : slB (n : Int) ac = true
  · obtain ⟨q, rfl, -, hn, -⟩ := slB_parts h1
    have HR : Hid ((slB (n : Int) (q : Int) && allB xs 0 ((q : Int) - 1)) = carsB xs q) := hid (by rw [h1, Bool.true_and, cars_all h.len (by omega)])
    have H1 := hid h1
    clear h1
    go_enter Try.func72, Try.ntmps72
    go_wp2_with fail
    refine (lineSlope_any _ _ _).mono ?_
    rintro e w1 ⟨rfl, hb1⟩
    rw [H1.out]
    have B1 := B0.below hb1 (boxAt_lt B0)
    have hb01 := hb0.trans (hb1.mono hb0.size)
    obtain ⟨_, _, _, _⟩ := id B1
    have h1' := h.below hb01 (Nat.le_refl _)
    go_wp2_with (go_at_call 101; refine (aCars_any _ _ _ _ _ _ h1').mono ?_; rintro e w' ⟨rfl, rfl⟩)
    go_ret
    exact ⟨ret_bool HR.out.symm, hb01⟩
  · have HR : Hid ((slB (n : Int) ac && allB xs 0 (ac - 1)) = false) := hid (by simp [h1])
    have H1 := hid (Bool.eq_false_iff.2 h1)
    clear h1
    go_enter Try.func72, Try.ntmps72
    go_wp2_with fail
    refine (lineSlope_any _ _ _).mono ?_
    rintro e w1 ⟨rfl, hb1⟩
    rw [H1.out]
    have hb01 := hb0.trans (hb1.mono hb0.size)
    go_wp2_with fail
    go_ret
    exact ⟨ret_bool HR.out.symm, hb01⟩

theorem turnSl_no {xs : List Int} {n : Nat} {a : Int} (hl : xs.length = n) (h : ¬ (slB (n : Int) a && allB xs 0 (a - 1)) = true) : turnSlOf xs a = ([], 0, false) := by
  subst hl
  simp only [turnSlOf, h, if_false, Bool.false_eq_true]

set_option maxHeartbeats 800000 in
theorem implTurnSl_any (a : Option Addr) (n cap : Nat) (xs : List Int) (ac : Int) (w : World) (h : Has w a n cap xs) :
    Calls Try.prog 23 #[.slice a n cap, .int .i64 ac] w (PostIntsInt w (turnSlOf xs ac)) := by
  by_cases hg : (slB (n : Int) ac && allB xs 0 (ac - 1)) = true
  · obtain ⟨g1, g2⟩ := Bool.and_eq_true_iff.1 hg
    obtain ⟨q, rfl, hs, hn, hq⟩ := slB_parts g1
    have HR := hid (turnSl_yes h.len hs g2)
    have hx : ∀ i, i < n → 0 ≤ nth xs i ∧ nth xs i < (q : Int) := fun i hi => by have := allB_nth g2 (k := i) (by rw [h.len]; exact hi); omega
    obtain ⟨t0, t1, t2⟩ := slBy_good hs h.len (fun x hx' => by obtain ⟨i, hi, rfl⟩ := mem_nth hx'; exact hx i (by rw [← h.len]; exact hi))
    have HGT := hid (fun s => good_turn (s := s) hs h.len)
    obtain ⟨S, hS⟩ : ∃ S, slBy n q xs = S := ⟨_, rfl⟩
    rw [hS] at t0 t1 t2 HR
    have T1 : Hid (goodSl (turn xs q S) q = true) := hid (by rw [HGT.out]; exact t1)
    have T2 : Hid (∀ j : Nat, j < S → goodSl (turn xs q j) q = false) := hid (fun j hj => by rw [HGT.out]; exact t2 j hj)
    have HX := hid hx
    have HG := hid hg
    clear t1 t2 hS hg g1 g2 hx hs
    go_enter Try.func23, Try.ntmps23
    go_wp2_with fail
    refine (lineOf_any _ _ _ _ _).mono ?_
    rintro e w1 ⟨rfl, hb1⟩
    have hb2 := hb1.alloc hb1.size (.cells #[.int .i64 0, .int .i64 0] 71)
    have B0 := boxAt_new w1 (.int .i64 0) (.int .i64 0) 71
    obtain ⟨W, hW⟩ : ∃ W, w1.alloc (.cells #[.int .i64 0, .int .i64 0] 71) = W := ⟨_, rfl⟩
    rw [hW] at hb2 B0
    have B2 := (B0.set0 (z := .int .i64 (n : Int))).set1 (z := .int .i64 (q : Int))
    have hb3 := (hb2.setCell (p := ⟨w1.heap.size, 0, none⟩) hb1.size (.int .i64 (n : Int))).setCell (p := ⟨w1.heap.size, 1, none⟩) hb1.size (.int .i64 (q : Int))
    obtain ⟨_, _, _, _⟩ := id B0
    obtain ⟨_, _, _, _⟩ := id B2
    go_wp2_with fail
    refine (canTurn_any _ _ _ xs _ _ (h.below hb3 (Nat.le_refl _))).mono ?_
    rintro e w2 ⟨rfl, hb4⟩
    rw [HG.out]
    have B3 := B2.below hb4 (boxAt_lt B2)
    have hb5 := hb3.trans (hb4.mono hb3.size)
    clear B0 hb2 B2 hb3 hb4 hW
    go_wp2_with fail
    go_loopw [18] (fun i wr => ∃ k : Nat, k ≤ S ∧ i = .int .i64 (k : Int) ∧ BoxAt wr w1.heap.size (.int .i64 (n : Int)) (.int .i64 (q : Int)) ∧ Below w.heap.size w wr) (fun i _ => S + 1 - (intOf i).toNat)
    case atStart => exact ⟨0, Nat.zero_le _, rfl, B3, hb5⟩
    case round =>
      clear B3 hb5
      obtain ⟨k, hk, rfl, B3, hb⟩ := hrel
      have hh := h.below hb (Nat.le_refl _)
      have hsz := hb.size
      have hlt0 := boxAt_lt B3
      have hkq : (k : Int) < (q : Int) := by omega
      go_wp2_with fail
      refine (turnedBy_any _ _ _ _ q (k : Int) _ hh (by omega) hq HX).mono ?_
      rintro e w3 ⟨a3, cap3, rfl, hown3, hb6⟩
      have B4 := B3.below hb6 hlt0
      have hb7 := hb.trans (hb6.mono hsz)
      obtain ⟨_, _, _, _⟩ := id B4
      go_wp2_with fail
      refine (linePark_any _ _ _ _ _ _ hown3.has).mono ?_
      rintro e w4 ⟨rfl, hb8⟩
      have B5 := B4.below hb8 (boxAt_lt B4)
      have hb9 := hb7.trans (hb8.mono hb7.size)
      have hown4 := hown3.below hb8 (Nat.le_refl _)
      clear B3 B4 hb hb6 hb7 hb8 hown3 hh
      by_cases hlt : k < S
      · rw [T2.out k hlt]
        go_wp2_with fail
        go_roundw
        case rel => exact ⟨k + 1, by omega, by go_num, B5, hb9⟩
        case measure => simp [intOf]; omega
      · obtain rfl : S = k := by omega
        rw [T1.out]
        go_wp2_with fail
        exact bodyPost_ret (v := .tuple #[.slice a3 n cap3, .int .i64 (S : Int), .bool true]) (by simp [results, Try.results23, go_sem]) rfl (postIntsInt HR.out (hown4.mono hsz) hb9)
  · have HR := hid (turnSl_no h.len hg)
    have HG := hid (Bool.eq_false_iff.2 hg)
    clear hg
    go_enter Try.func23, Try.ntmps23
    go_wp2_with fail
    refine (lineOf_any _ _ _ _ _).mono ?_
    rintro e w1 ⟨rfl, hb1⟩
    have hb2 := hb1.alloc hb1.size (.cells #[.int .i64 0, .int .i64 0] 71)
    have B0 := boxAt_new w1 (.int .i64 0) (.int .i64 0) 71
    obtain ⟨W, hW⟩ : ∃ W, w1.alloc (.cells #[.int .i64 0, .int .i64 0] 71) = W := ⟨_, rfl⟩
    rw [hW] at hb2 B0
    have B2 := (B0.set0 (z := .int .i64 (n : Int))).set1 (z := .int .i64 ac)
    have hb3 := (hb2.setCell (p := ⟨w1.heap.size, 0, none⟩) hb1.size (.int .i64 (n : Int))).setCell (p := ⟨w1.heap.size, 1, none⟩) hb1.size (.int .i64 ac)
    obtain ⟨_, _, _, _⟩ := id B0
    obtain ⟨_, _, _, _⟩ := id B2
    go_wp2_with fail
    refine (canTurn_any _ _ _ xs _ _ (h.below hb3 (Nat.le_refl _))).mono ?_
    rintro e w2 ⟨rfl, hb4⟩
    rw [HG.out]
    have hb5 := hb3.trans (hb4.mono hb3.size)
    go_wp2_with fail
    exact bodyPost_ret (v := .tuple #[.slice none 0 0, .int .i64 0, .bool false]) (by simp [results, Try.results23, go_sem]) rfl (postIntsInt HR.out (Own.nil _ _) hb5)

theorem implUsual_any (a : Option Addr) (n cap : Nat) (xs : List Int) (w : World) (h : Has w a n cap xs) :
    Calls Try.prog 30 #[.slice a n cap] w (PostInts w (usualOf xs)) := by
  have hle := h.le
  by_cases hg : goodSl xs ((n : Int) + 1) = true
  · have HR : Hid (usualOf xs = (xs, true)) := hid (by simp [usualOf, h.len, hg])
    have HG := hid hg
    clear hg
    go_enter Try.func30, Try.ntmps30
    go_wp2_with fail
    refine (lineOf_any _ _ _ _ _).mono ?_
    rintro e w0 ⟨rfl, hb0⟩
    go_wp2_with fail
    refine (linePark_any _ _ _ _ _ _ (h.below hb0 (Nat.le_refl _))).mono ?_
    rintro e w1 ⟨rfl, hb1⟩
    rw [HG.out]
    have hb01 := hb0.trans (hb1.mono hb0.size)
    go_wp2_with fail
    refine (clone_any _ _ _ _ _ (h.below hb01 (Nat.le_refl _))).mono ?_
    rintro e w2 ⟨a2, cap2, rfl, hown2, hb2⟩
    go_wp2_with fail
    go_ret2
    exact postInts HR.out (hown2.mono hb01.size) (hb01.trans (hb2.mono hb01.size))
  · have HR : Hid (usualOf xs = ([], false)) := hid (by simp [usualOf, h.len, hg])
    have HG := hid (Bool.eq_false_iff.2 hg)
    clear hg
    go_enter Try.func30, Try.ntmps30
    go_wp2_with fail
    refine (lineOf_any _ _ _ _ _).mono ?_
    rintro e w0 ⟨rfl, hb0⟩
    go_wp2_with fail
    refine (linePark_any _ _ _ _ _ _ (h.below hb0 (Nat.le_refl _))).mono ?_
    rintro e w1 ⟨rfl, hb1⟩
    rw [HG.out]
    have hb01 := hb0.trans (hb1.mono hb0.size)
    go_wp2_with fail
    go_ret2
    exact postInts_no HR.out hb01
end Go.Proofs.Ytfkejkkplafciad

namespace Go.Proofs.Ytfkejkkplafciad
open Go.RowKit

def areaSl (xs : List Int) (n a : Nat) : Int := total (bnds n a) - total xs
set_option maxHeartbeats 1600000 in
theorem implArea_any (a : Option Addr) (n cap : Nat) (xs : List Int) (q : Nat) (w : World) (h : Has w a n cap xs) (hg : (slB (n : Int) (q : Int) && allB xs 0 ((q : Int) - 1)) = true) :
    Calls Try.prog 42 #[.slice a n cap, .int .i64 (q : Int)] w fun e w' => e = .returned (.tuple #[.int .i64 (areaSl xs n q), .bool true]) ∧ Below w.heap.size w w' := by
  obtain ⟨g1, g2⟩ := Bool.and_eq_true_iff.1 hg
  obtain ⟨q', e, hs, hn, hq⟩ := slB_parts g1
  obtain rfl : q = q' := by omega
  have hx : ∀ i, i < n → 0 ≤ nth xs i ∧ nth xs i < (q : Int) := fun i hi => by have := allB_nth g2 (k := i) (by rw [h.len]; exact hi); omega
  have hbd : ∀ i, i < n → 0 ≤ nth (bnds n q) i ∧ nth (bnds n q) i < (q : Int) := fun i hi => by
    have hm : nth (bnds n q) i ∈ bnds n q := nth_mem (by rw [length_bnds]; exact hi)
    exact ⟨(bnds_bnd n q).2 _ hm, bnds_lt hq.1 _ hm⟩
  have HX := hid hx
  have HBD := hid hbd
  have HG := hid hg
  have HT := hid (fun k (hk : k < n) => total_succ (xs := xs) (k := k) (by rw [h.len]; exact hk))
  have HU := hid (fun k (hk : k < n) => total_succ (xs := bnds n q) (k := k) (by rw [length_bnds]; exact hk))
  have HR := hid (show total ((bnds n q).take n) - total (xs.take n) = areaSl xs n q by
    rw [List.take_of_length_le (by rw [length_bnds]; exact Nat.le_refl _), List.take_of_length_le (by rw [h.len]; exact Nat.le_refl _)]; rfl)
  clear hg g1 g2 hx hs hbd e
  go_enter Try.func42, Try.ntmps42
  go_wp2_with fail
  refine (lineOf_any _ _ _ _ _).mono ?_
  rintro e w1 ⟨rfl, hb1⟩
  have hb2 := hb1.alloc hb1.size (.cells #[.int .i64 0, .int .i64 0] 71)
  have B0 := boxAt_new w1 (.int .i64 0) (.int .i64 0) 71
  obtain ⟨W, hW⟩ : ∃ W, w1.alloc (.cells #[.int .i64 0, .int .i64 0] 71) = W := ⟨_, rfl⟩
  rw [hW] at hb2 B0
  have B2 := (B0.set0 (z := .int .i64 (n : Int))).set1 (z := .int .i64 (q : Int))
  have hb3 := (hb2.setCell (p := ⟨w1.heap.size, 0, none⟩) hb1.size (.int .i64 (n : Int))).setCell (p := ⟨w1.heap.size, 1, none⟩) hb1.size (.int .i64 (q : Int))
  obtain ⟨_, _, _, _⟩ := id B0
  obtain ⟨_, _, _, _⟩ := id B2
  go_wp2_with fail
  refine (canTurn_any _ _ _ xs _ _ (h.below hb3 (Nat.le_refl _))).mono ?_
  rintro e w2 ⟨rfl, hb4⟩
  rw [HG.out]
  have B3 := B2.below hb4 (boxAt_lt B2)
  have hb5 := hb3.trans (hb4.mono hb3.size)
  clear B0 hb2 B2 hb3 hb4 hW
  obtain ⟨_, _, _, _⟩ := id B3
  go_wp2_with fail
  refine (lineBounds_any n q _ hn.2 hq.2).mono ?_
  rintro e w3 ⟨a3, cap3, rfl, hown3, hb6⟩
  have hb7 := hb5.trans (hb6.mono hb5.size)
  have H2 := h.below hb7 (Nat.le_refl _)
  have H3 := hown3.has
  clear hb5 hb6 B3 hown3
  go_wp2_with fail
  go_loop [7, 20] (fun s i => ∃ (k : Nat) (v : Int), k ≤ n ∧ i = .int .i64 (k : Int) ∧ s = .int .i64 v ∧ Hid (v = total ((bnds n q).take k) - total (xs.take k)) ∧ -(13 * (k : Int)) ≤ v ∧ v ≤ 13 * (k : Int)) (fun _ i => n - (intOf i).toNat)
  case atStart => exact ⟨0, 0, by omega, rfl, rfl, hid (by simp [total]), by omega, by omega⟩
  case round =>
    obtain ⟨k, v, hk, rfl, rfl, HV, v0, v1⟩ := hrel
    by_cases hlt : k < n
    · obtain ⟨b1, off1, rfl, hbb1, hc1⟩ := H2.2.2.2.2 (by omega)
      obtain ⟨b2, off2, rfl, hbb2, hc2⟩ := H3.2.2.2.2 (by omega)
      have hck := hc1 k hlt
      have hdk := hc2 k hlt
      obtain ⟨u0, u1⟩ := HX.out k hlt
      obtain ⟨z0, z1⟩ := HBD.out k hlt
      have HS : Hid (v + (nth (bnds n q) k - nth xs k) = total ((bnds n q).take (k + 1)) - total (xs.take (k + 1))) := hid (by rw [HT.out k hlt, HU.out k hlt, HV.out]; omega)
      clear hc1 hc2
      generalize nth xs k = u at *
      generalize nth (bnds n q) k = z at *
      have hw1 : IntKind.i64.wrap (z - u) = z - u := by rw [IntKind.wrap_i64]; omega
      have hw2 : IntKind.i64.wrap (v + (z - u)) = v + (z - u) := by rw [IntKind.wrap_i64]; omega
      go_wp2_with fail
      go_round
      case rel => exact ⟨k + 1, v + (z - u), by omega, by go_num, by go_num, HS, by omega, by omega⟩
      case measure => simp [intOf]; omega
    · obtain rfl : k = n := by omega
      obtain rfl : v = areaSl xs k q := by rw [HV.out, HR.out]
      go_wp2_with fail
      exact bodyPost_ret (v := .tuple #[.int .i64 (areaSl xs k q), .bool true]) (by simp [results, Try.results42, go_sem]) rfl ⟨rfl, hb7⟩
end Go.Proofs.Ytfkejkkplafciad

namespace Go.Proofs.Ytfkejkkplafciad
open Go.RowKit

theorem cnt_sym : ∀ n, n < 7 → ∀ a, a < 7 → slN n a = true → cntWkN a n = cntWkN n a := by decide +kernel
theorem cnt_wk_le : ∀ n, n < 7 → ∀ a, a < 14 → slN n a = true → cntWkN n a ≤ 1428 := by decide +kernel
def wkTurn (xs : List Int) (a : Nat) : List Int := (List.range a).map fun (j : Nat) => (from' xs ((a : Int) - j) : Int)
def wkOK (n a : Nat) (xs : List Int) : Bool :=
  decide (undTo (wkTurn xs a) (bnds a n) a = true) && decide (insSort (wkTurn xs a) = wkTurn xs a) && decide (wkTurn (wkTurn xs a) n = xs) && decide (total (bnds n a) - total xs = total (bnds a n) - total (wkTurn xs a))
theorem wk_check : ∀ n, n < 7 → ∀ a, a < 7 → slN n a = true → (allW (bnds n a)).all (wkOK n a) = true := by decide +kernel
theorem wk_parts {xs : List Int} {n : Nat} {a : Int} (h : isWalkSl xs a = true) (hl : xs.length = n) : ∃ q : Nat, a = (q : Int) ∧ slN n q = true ∧ (slB (n : Int) (q : Int) && allB xs 0 ((q : Int) - 1)) = true ∧ xs.Pairwise (· ≤ ·) ∧ (∀ i, i < n → 0 ≤ nth xs i ∧ nth xs i ≤ nth (bnds n q) i) := by
  subst hl
  simp only [isWalkSl, goodSl, Bool.and_eq_true, decide_eq_true_eq] at h
  obtain ⟨⟨h1, h2⟩, h3⟩ := h
  obtain ⟨m, q, e, rfl, hs⟩ := slB_iff.1 h1
  obtain rfl : xs.length = m := by omega
  rw [Int.toNat_natCast] at h2
  have hx : ∀ i, i < xs.length → 0 ≤ nth xs i ∧ nth xs i ≤ nth (bnds xs.length q) i := by
    unfold und at h2
    rw [h3] at h2
    exact undTo_iff.1 h2
  have hp := insSort_sorted xs
  rw [h3] at hp
  refine ⟨q, rfl, hs, ?_, hp, hx⟩
  rw [h1, Bool.true_and, allB_iff]
  intro x hx'
  obtain ⟨i, hi, rfl⟩ := mem_nth hx'
  have h4 := hx i hi
  have h5 := bnds_lt (n := xs.length) (slN_iff.1 hs).2.1.1 _ (nth_mem (xs := bnds xs.length q) (i := i) (by rw [length_bnds]; exact hi))
  omega
theorem turn_twice {xs : List Int} {n q : Nat} (h : isWalkSl xs (q : Int) = true) (hl : xs.length = n) (hs2 : slB (q : Int) (n : Int) = true) :
    turnWkOf xs (q : Int) = (wkTurn xs q, true) ∧ (wkTurn xs q).length = q ∧ turnWkOf (wkTurn xs q) (n : Int) = (xs, true) ∧ areaSl xs n q = areaSl (wkTurn xs q) q n ∧
      (slB (n : Int) (q : Int) && allB xs 0 ((q : Int) - 1)) = true ∧ (slB (q : Int) (n : Int) && allB (wkTurn xs q) 0 ((n : Int) - 1)) = true := by
  obtain ⟨q', e, hs, hc, hp, hx⟩ := wk_parts h hl
  obtain rfl : q = q' := by omega
  rw [slB_nat] at hs2
  have k1 := slN_iff.1 hs
  have k2 := slN_iff.1 hs2
  have hm : xs ∈ allW (bnds n q) := by
    refine wlk_mem.2 ⟨by rw [hl, length_bnds], ?_, fun i hi => (hx i (by rw [length_bnds] at hi; exact hi)).2⟩
    rw [List.pairwise_cons]
    refine ⟨fun x hx' => ?_, hp⟩
    obtain ⟨i, hi, rfl⟩ := mem_nth hx'
    exact (hx i (by rw [← hl]; exact hi)).1
  have hk := List.all_eq_true.1 (wk_check n (by omega) q (by omega) hs) xs hm
  simp only [wkOK, Bool.and_eq_true, decide_eq_true_eq] at hk
  obtain ⟨⟨⟨c1, c2⟩, c3⟩, c4⟩ := hk
  have hlen : (wkTurn xs q).length = q := by simp [wkTurn]
  have hw2 : isWalkSl (wkTurn xs q) (n : Int) = true := by
    simp only [isWalkSl, goodSl, Bool.and_eq_true, decide_eq_true_eq]
    refine ⟨⟨by rw [hlen, slB_nat, hs2], ?_⟩, c2⟩
    unfold und
    rw [c2, hlen, Int.toNat_natCast]
    exact c1
  obtain ⟨n', e2, _, hc2, _⟩ := wk_parts hw2 hlen
  obtain rfl : n = n' := by omega
  refine ⟨?_, hlen, ?_, c4, hc, hc2⟩
  · unfold turnWkOf
    rw [h, hl, slB_nat, hs2]
    rfl
  · unfold turnWkOf
    rw [hw2, hlen, slB_nat, hs]
    simp only [Bool.and_self, if_true, Int.toNat_natCast]
    exact congrArg (fun z => (z, true)) c3
theorem turnWk_not {xs : List Int} {a : Int} (h : ¬ (isWalkSl xs a = true ∧ slB a xs.length = true)) : turnWkOf xs a = ([], false) := by
  unfold turnWkOf
  rw [if_neg]
  simpa using h
/-- Levels of a walk. -/
theorem level_facts {xs : List Int} {n : Nat} {a : Int} (h : isWalkSl xs a = true) (hl : xs.length = n) : ∃ ls, levelsOf xs a = (ls, true) ∧ ls.length = n ∧ ∀ k, k < n → 0 ≤ nth ls k ∧ hasB (ls.take k) (nth ls k) = false := by
  obtain ⟨q, rfl, hs, _, _, hx⟩ := wk_parts h hl
  subst hl
  obtain ⟨⟨h1, h2⟩, ⟨h3, h4⟩, hg⟩ := slN_iff.1 hs
  have hN : ∀ k, k < xs.length → nth (levelsL xs (q : Int) xs.length) k = (k : Int) * (q : Int) - (xs.length : Int) * nth xs k := fun k hk => by simp [levelsL, nth, hk]
  have hll : (levelsL xs (q : Int) xs.length).length = xs.length := by simp [levelsL]
  refine ⟨levelsL xs q xs.length, by simp [levelsOf, h], hll, fun k hk => ⟨?_, ?_⟩⟩
  · rw [hN k hk]
    obtain ⟨u0, u1⟩ := hx k hk
    rw [nth_bnds hk] at u1
    have h5 : (k * q / xs.length : Nat) * xs.length ≤ k * q := Nat.div_mul_le_self _ _
    have h6 : (xs.length : Int) * nth xs k ≤ (xs.length : Int) * ((k * q / xs.length : Nat) : Int) := Int.mul_le_mul_of_nonneg_left u1 (by omega)
    have h7 : ((xs.length : Int) * ((k * q / xs.length : Nat) : Int)) ≤ (k : Int) * (q : Int) := by
      rw [← Int.natCast_mul, ← Int.natCast_mul, Nat.mul_comm]
      exact Int.ofNat_le.2 h5
    omega
  · rw [hasB_not]
    intro hm
    obtain ⟨i, hi, e⟩ := mem_nth hm
    have hik : i < k := by rw [List.length_take] at hi; omega
    rw [nth_take hik, hN i (by omega), hN k hk] at e
    have hd : (xs.length : Int) * (nth xs k - nth xs i) = ((k : Int) - i) * q := by
      rw [Int.mul_sub, Int.sub_mul]
      omega
    have hdvd : (xs.length : Int) ∣ ((k : Int) - i) * q := ⟨_, hd.symm⟩
    have hn : xs.length ∣ ((k : Int) - i).natAbs := by
      have h5 := Int.natAbs_dvd_natAbs.2 hdvd
      rw [Int.natAbs_mul, Int.natAbs_natCast, Int.natAbs_natCast] at h5
      exact Nat.Coprime.dvd_of_dvd_mul_right (by unfold Nat.Coprime; exact hg) h5
    have hz : ((k : Int) - i).natAbs = 0 := Nat.eq_zero_of_dvd_of_lt hn (by omega)
    omega
theorem levels_not {xs : List Int} {a : Int} (h : ¬ isWalkSl xs a = true) : levelsOf xs a = ([], false) := by
  unfold levelsOf
  rw [if_neg h]
end Go.Proofs.Ytfkejkkplafciad

namespace Go.Proofs.Ytfkejkkplafciad
open Go.RowKit

theorem allB_facts {m q : Nat} (hs : slN m q = true) (h : q ^ (m - 1) ≤ 700) : Chain (fun xs => nextU (bnds m q) xs xs.length) (allB' (bnds m q)) ∧ (allB' (bnds m q)).getD 0 [] = List.replicate m 0 ∧ (allB' (bnds m q)).length ≤ 100000 ∧
    ∀ k, k < (allB' (bnds m q)).length → ((allB' (bnds m q)).getD k []).length = m ∧ ∀ i, i < m → 0 ≤ nth ((allB' (bnds m q)).getD k []) i ∧ nth ((allB' (bnds m q)).getD k []) i ≤ 13 := by
  obtain ⟨⟨h1, h2⟩, ⟨h3, h4⟩, _⟩ := slN_iff.1 hs
  obtain ⟨c1, c2, c3, c4⟩ := allB_chain (bnds_bnd m q)
  rw [length_bnds] at c2
  have hc := cnt_slope m (by omega) q (by omega) hs
  refine ⟨c1, c2, by rw [c3, hc]; omega, fun k hk => ?_⟩
  obtain ⟨_, _, d3, d4⟩ := c4 k hk
  rw [length_bnds] at d4
  refine ⟨d4, fun i hi => ?_⟩
  have := und_len (bnds_bnd m q) (by rw [length_bnds]; exact d4) d3 _ (nth_mem (xs := (allB' (bnds m q)).getD k []) (i := i) (by omega))
  have := numB_slope (n := m) (a := q) h3
  omega
theorem allW_facts {m q : Nat} (hs : slN m q = true) (h : cntWkN m q ≤ 700) : Chain (fun xs => nextW (bnds m q) xs xs.length) (allW (bnds m q)) ∧ (allW (bnds m q)).getD 0 [] = List.replicate m 0 ∧ (allW (bnds m q)).length ≤ 100000 ∧
    ∀ k, k < (allW (bnds m q)).length → ((allW (bnds m q)).getD k []).length = m ∧ ∀ i, i < m → 0 ≤ nth ((allW (bnds m q)).getD k []) i ∧ nth ((allW (bnds m q)).getD k []) i ≤ 13 := by
  obtain ⟨⟨h1, h2⟩, ⟨h3, h4⟩, _⟩ := slN_iff.1 hs
  obtain ⟨c1, c2, c4⟩ := allW_chain (bnds_bnd m q)
  rw [length_bnds] at c2
  have hc := walks_count m (by omega) q (by omega) hs h
  refine ⟨c1, c2, by rw [hc]; unfold cntWkN at h; omega, fun k hk => ?_⟩
  obtain ⟨d1, _, d3⟩ := c4 k hk
  rw [length_bnds] at d1 d3
  refine ⟨d1, fun i hi => ?_⟩
  have h5 := d3 i hi
  have h6 := bnds_lt (n := m) (a := q) h3 _ (nth_mem (xs := bnds m q) (i := i) (by rw [length_bnds]; exact hi))
  omega

set_option maxHeartbeats 800000 in
theorem onLine_any (n a : Int) (w : World) : Calls Try.prog 65 #[.iface 71 (.agg #[.int .i64 n, .int .i64 a])] w (PostRows w (allSlOf n a)) := by
  by_cases h1 : slB n a = true
  · obtain ⟨m, q, rfl, rfl, hs⟩ := slB_iff.1 h1
    obtain ⟨⟨n0, n1⟩, ⟨q0, q1⟩, -⟩ := slN_iff.1 hs
    have HCN : Hid (cntSlOf m q = (((q ^ (m - 1) : Nat) : Int), true)) := hid (by simp [cntSlOf, h1])
    by_cases h7 : q ^ (m - 1) ≤ 700
    · have HA := hid (allSl_yes hs h7)
      obtain ⟨f1, f2, f3, f4⟩ := allB_facts hs h7
      have HC := hid f1
      have HF := hid f2
      have HL := hid f3
      have HV := hid f4
      have hnl : ¬ (700 : Int) < ((q ^ (m - 1) : Nat) : Int) := by omega
      clear h1 hs h7 f1 f2 f3 f4
      generalize q ^ (m - 1) = pw at *
      go_enter Try.func65, Try.ntmps65
      go_wp2_with fail
      refine (countLine_any _ _ _).mono ?_
      rw [HCN.out]
      rintro e w1 ⟨rfl, hb1⟩
      go_wp2_with fail
      go_region_with (first | (go_at_call 170; refine (lineFirst_any m (q : Int) _ n1).mono ?_; rintro e w5 ⟨a5, cap5, rfl, hown5, hb5⟩) | (go_at_call 98; refine (allLine_any m q (allB' (bnds m q)) HC.out n1 q1 HL.out HV.out _ _ _ _ _ _ hb5 hown5 HF.out).mono ?_; rintro e w6 ⟨a6, q6, cap6, rs6, rfl, hown6, hn6, hb6⟩))
      all_goals
        go_wp2_with fail
        go_ret2
        exact postRows HA.out (hown6.mono hb1.size) hn6 (hb1.trans (((Below.refl w1.heap.size w1).drew.trans hb6).mono hb1.size))
    · have HA := hid (allSl_no2 h7)
      have hnl : (700 : Int) < ((q ^ (m - 1) : Nat) : Int) := by omega
      clear h1 hs h7
      generalize q ^ (m - 1) = pw at *
      go_enter Try.func65, Try.ntmps65
      go_wp2_with fail
      refine (countLine_any _ _ _).mono ?_
      rw [HCN.out]
      rintro e w1 ⟨rfl, hb1⟩
      go_wp2_with fail
      go_ret2
      exact postRows_no HA.out hb1
  · have HA := hid (allSl_no1 h1)
    have HCN : Hid (cntSlOf n a = (0, false)) := hid (by simp [cntSlOf, h1])
    clear h1
    go_enter Try.func65, Try.ntmps65
    go_wp2_with fail
    refine (countLine_any _ _ _).mono ?_
    rw [HCN.out]
    rintro e w1 ⟨rfl, hb1⟩
    go_wp2_with fail
    go_ret2
    exact postRows_no HA.out hb1
set_option maxHeartbeats 800000 in
theorem onSteps_any (n a : Int) (w : World) : Calls Try.prog 65 #[.iface 90 (.agg #[.int .i64 n, .int .i64 a])] w (PostRows w (allWkOf n a)) := by
  by_cases h1 : slB n a = true
  · obtain ⟨m, q, rfl, rfl, hs⟩ := slB_iff.1 h1
    obtain ⟨⟨n0, n1⟩, ⟨q0, q1⟩, -⟩ := slN_iff.1 hs
    have HCN : Hid (cntWkOf m q = ((cntWkN m q : Int), true)) := hid (by simp [cntWkOf, h1])
    by_cases h7 : cntWkN m q ≤ 700
    · have HA := hid (allWk_yes hs h7)
      obtain ⟨f1, f2, f3, f4⟩ := allW_facts hs h7
      have HC := hid f1
      have HF := hid f2
      have HL := hid f3
      have HV := hid f4
      have hnl : ¬ (700 : Int) < (cntWkN m q : Int) := by omega
      clear h1 hs h7 f1 f2 f3 f4
      generalize cntWkN m q = pw at *
      go_enter Try.func65, Try.ntmps65
      go_wp2_with fail
      refine (countSteps_any _ _ _).mono ?_
      rw [HCN.out]
      rintro e w1 ⟨rfl, hb1⟩
      go_wp2_with fail
      go_region_with (first | (go_at_call 170; refine (lineFirst_any m (q : Int) _ n1).mono ?_; rintro e w5 ⟨a5, cap5, rfl, hown5, hb5⟩) | (go_at_call 98; refine (allSteps_any m q (allW (bnds m q)) HC.out n1 q1 HL.out HV.out _ _ _ _ _ _ hb5 hown5 HF.out).mono ?_; rintro e w6 ⟨a6, q6, cap6, rs6, rfl, hown6, hn6, hb6⟩))
      all_goals
        go_wp2_with fail
        go_ret2
        exact postRows HA.out (hown6.mono hb1.size) hn6 (hb1.trans (((Below.refl w1.heap.size w1).drew.trans hb6).mono hb1.size))
    · have HA := hid (allWk_no2 h7)
      have hnl : (700 : Int) < (cntWkN m q : Int) := by omega
      clear h1 hs h7
      generalize cntWkN m q = pw at *
      go_enter Try.func65, Try.ntmps65
      go_wp2_with fail
      refine (countSteps_any _ _ _).mono ?_
      rw [HCN.out]
      rintro e w1 ⟨rfl, hb1⟩
      go_wp2_with fail
      go_ret2
      exact postRows_no HA.out hb1
  · have HA := hid (allWk_no1 h1)
    have HCN : Hid (cntWkOf n a = (0, false)) := hid (by simp [cntWkOf, h1])
    clear h1
    go_enter Try.func65, Try.ntmps65
    go_wp2_with fail
    refine (countSteps_any _ _ _).mono ?_
    rw [HCN.out]
    rintro e w1 ⟨rfl, hb1⟩
    go_wp2_with fail
    go_ret2
    exact postRows_no HA.out hb1

theorem implAllSl_any (n a : Int) (w : World) : Calls Try.prog 16 #[.int .i64 n, .int .i64 a] w (PostRows w (allSlOf n a)) := by
  go_enter Try.func16, Try.ntmps16
  go_wp2_with fail
  refine (onLine_any _ _ _).mono ?_
  obtain ⟨⟨ls, ok⟩, hr⟩ : ∃ r, allSlOf n a = r := ⟨_, rfl⟩
  rw [hr]
  have HR := hid hr
  clear hr
  rintro e w1 ⟨a1, q1, cap1, rs1, rfl, hown1, hn1, hb1⟩
  go_wp2_with fail
  go_ret2
  exact postRows HR.out hown1 hn1 hb1
theorem implAllWk_any (n a : Int) (w : World) : Calls Try.prog 33 #[.int .i64 n, .int .i64 a] w (PostRows w (allWkOf n a)) := by
  go_enter Try.func33, Try.ntmps33
  go_wp2_with fail
  refine (onSteps_any _ _ _).mono ?_
  obtain ⟨⟨ls, ok⟩, hr⟩ : ∃ r, allWkOf n a = r := ⟨_, rfl⟩
  rw [hr]
  have HR := hid hr
  clear hr
  rintro e w1 ⟨a1, q1, cap1, rs1, rfl, hown1, hn1, hb1⟩
  go_wp2_with fail
  go_ret2
  exact postRows HR.out hown1 hn1 hb1
end Go.Proofs.Ytfkejkkplafciad

namespace Go.Proofs.Ytfkejkkplafciad
open Go.RowKit

set_option maxHeartbeats 400000 in
theorem wSame_any (a b : Option Addr) (n m cap cap' : Nat) (xs ys : List Int) (w : World) (h : Has w a n cap xs) (h' : Has w b m cap' ys) :
    Calls Try.prog 13 #[.slice a n cap, .slice b m cap'] w fun e w' => e = .returned (.bool (same xs ys)) ∧ Quiet w w' := by
  obtain ⟨h0, h1, h2, h3, h4⟩ := h
  obtain ⟨k0, k1, k2, k3, k4⟩ := h'
  by_cases hnm : n = m
  · have hb : ((n : Int) != (m : Int)) = false := by simp [hnm]
    subst hnm
    go_enter Try.func13, Try.ntmps13
    go_wp2_with fail
    go_loopw [13] (fun i wr => ∃ k : Nat, k ≤ n ∧ i = .int .i64 k ∧ FromTo xs ys k ∧ Quiet w wr) (fun i _ => n - (intOf i).toNat)
    case atStart => exact ⟨0, Nat.zero_le _, rfl, fun i hi => by omega, ⟨0, rfl⟩⟩
    case round =>
      obtain ⟨k, hk, rfl, hft, q, hq⟩ := hrel
      subst hq
      by_cases hlt : k < n
      · obtain ⟨b1, off1, rfl, hb1, hc1⟩ := h4 (by omega)
        obtain ⟨b2, off2, rfl, hb2, hc2⟩ := k4 (by omega)
        have hck := hc1 k hlt
        have hdk := hc2 k hlt
        have hkk : (k : Int) < (n : Int) := by omega
        have hkz : (0 : Int) ≤ (k : Int) := by omega
        clear hc1 hc2 h4 k4
        by_cases he : nth xs k = nth ys k
        · have hbe : (nth xs k != nth ys k) = false := by simp [he]
          have HE := hid he
          clear he
          go_wp2_with fail
          go_quiet (fail)
          go_wp2_with fail
          go_roundw
          case rel => exact ⟨k + 1, by omega, by go_num, fun i hi => by rcases Nat.lt_succ_iff_lt_or_eq.1 hi with h | rfl; exact hft i h; exact HE.out.symm, ⟨_, rfl⟩⟩
          case measure => simp [intOf]; omega
        · have hbe : (nth xs k != nth ys k) = true := by simp [he]
          have HE := hid he
          clear he
          go_wp2_with fail
          go_quiet (fail)
          go_wp2_with fail
          go_ret
          exact ⟨ret_bool (same_no HE.out).symm, (Quiet.more ⟨_, rfl⟩ _)⟩
      · obtain rfl : k = n := by omega
        go_wp2_with fail
        go_ret
        exact ⟨ret_bool (same_yes (by omega) (by rw [h0]; exact hft)).symm, ⟨_, rfl⟩⟩
  · have hb : ((n : Int) != (m : Int)) = true := by simp; omega
    go_enter Try.func13, Try.ntmps13
    go_wp2_with fail
    go_ret
    exact ⟨ret_bool (show false = same xs ys from by unfold same; symm; rw [decide_eq_false_iff_not]; rintro rfl; omega), ⟨0, rfl⟩⟩

set_option maxHeartbeats 400000 in
theorem wHas_any (a : Option Addr) (n cap : Nat) (xs : List Int) (x : Int) (w : World) (h : Has w a n cap xs) :
    Calls Try.prog 43 #[.slice a n cap, .int .i64 x] w fun e w' => e = .returned (.bool (hasB xs x)) ∧ w = w' := by
  obtain ⟨h0, h1, h2, h3, h4⟩ := h
  go_enter Try.func43, Try.ntmps43
  go_wp2_with fail
  go_loop [9] (fun i => ∃ k : Nat, k ≤ n ∧ i = .int .i64 k ∧ hasB (xs.take k) x = false) (fun i => n - (intOf i).toNat)
  case atStart => exact ⟨0, Nat.zero_le _, rfl, by simp [hasB]⟩
  case round =>
    obtain ⟨k, hk, rfl, hrel⟩ := hrel
    have HR := hid hrel
    clear hrel
    by_cases hlt : k < n
    · obtain ⟨b, off, rfl, hb, hc⟩ := h4 (by omega)
      have hck := hc k hlt
      clear hc h4
      by_cases he : nth xs k = x
      · have hbe : (nth xs k == x) = true := by simp [he]
        have HE := hid he
        clear he
        go_wp2_with fail
        go_ret
        exact ⟨ret_bool (hasB_yes (by omega) HE.out).symm, rfl⟩
      · have hbe : (nth xs k == x) = false := by simp [he]
        have HE := hid he
        clear he
        go_wp2_with fail
        go_round
        case rel => exact ⟨k + 1, by omega, by go_num, hasB_succ (by omega) HR.out HE.out⟩
        case measure => simp [intOf]; omega
    · go_wp2_with fail
      go_ret
      exact ⟨ret_bool (by rw [← HR.out, List.take_of_length_le (by omega)]), rfl⟩

end Go.Proofs.Ytfkejkkplafciad

namespace Go.Proofs.Ytfkejkkplafciad
open Go.RowKit

set_option maxHeartbeats 800000 in
theorem wRows_any (a b : Option Addr) (n m cap cap' : Nat) (rs ss : List Rw) (w : World) (h : HasR w a n cap rs) (h' : HasR w b m cap' ss) :
    Calls Try.prog 18 #[.slice a n cap, .slice b m cap'] w fun e w' => e = .returned (.bool (sameR rs ss)) ∧ Quiet w w' := by
  obtain ⟨h0, h1, h2, h3, h4, h5⟩ := h
  obtain ⟨k0, k1, k2, k3, k4, k5⟩ := h'
  by_cases hnm : n = m
  · have hb : ((n : Int) != (m : Int)) = false := by simp [hnm]
    subst hnm
    have HL := hid h0
    have HL' := hid k0
    have H5 := hid h5
    have K5 := hid k5
    clear h0 k0 h5 k5
    go_enter Try.func18, Try.ntmps18
    go_wp2_with fail
    go_loopw [13] (fun i wr => ∃ k : Nat, k ≤ n ∧ i = .int .i64 k ∧ Hid (∀ j, j < k → same (nthR rs j).xs (nthR ss j).xs = true) ∧ Quiet w wr) (fun i _ => n - (intOf i).toNat)
    case atStart => exact ⟨0, Nat.zero_le _, rfl, hid (fun i hi => by omega), ⟨0, rfl⟩⟩
    case round =>
      obtain ⟨k, hk, rfl, HF, HQ⟩ := hrel
      by_cases hlt : k < n
      · obtain ⟨b1, off1, rfl, hb1, hc1⟩ := h4 (by omega)
        obtain ⟨b2, off2, rfl, hb2, hc2⟩ := k4 (by omega)
        have hck : wr.cell? ⟨b1, off1 + k, none⟩ = some (nthR rs k).v := by obtain ⟨q, hq⟩ := HQ; rw [hq]; exact hc1 k hlt
        have hdk : wr.cell? ⟨b2, off2 + k, none⟩ = some (nthR ss k).v := by obtain ⟨q, hq⟩ := HQ; rw [hq]; exact hc2 k hlt
        have hkk : (k : Int) < (n : Int) := by omega
        have hkz : (0 : Int) ≤ (k : Int) := by omega
        have cq : ∀ j, Calls Try.prog 13 #[(nthR rs k).v, (nthR ss k).v] (wr.drewN j) fun e w' => e = .returned (.bool (same (nthR rs k).xs (nthR ss k).xs)) ∧ ∃ m, w' = (wr.drewN j).drewN m := fun j =>
          wSame_any _ _ _ _ _ _ _ _ _ (by obtain ⟨q, hq⟩ := HQ; rw [hq]; exact H5.out k hlt) (by obtain ⟨q, hq⟩ := HQ; rw [hq]; exact K5.out k hlt)
        clear hc1 hc2 h4 k4
        have HN := hid (sameR_no (rs := rs) (ss := ss) (k := k) (by rw [HL.out]; omega) (by rw [HL'.out]; omega))
        have HF2 := hid (fun (hh : same (nthR rs k).xs (nthR ss k).xs = true) (j : Nat) (hj : j < k + 1) => (show same (nthR rs j).xs (nthR ss j).xs = true from by rcases Nat.lt_succ_iff_lt_or_eq.1 hj with h1 | rfl; exact HF.out j h1; exact hh))
        generalize nthR rs k = rk at *
        generalize nthR ss k = sk at *
        by_cases he : same rk.xs sk.xs = true
        · have HE := hid he
          rw [he] at cq
          have CQ := hid cq
          clear he cq
          go_wp2_with fail
          go_quiet ((go_at_call 13; exact Calls.quiet_of (CQ.out _)))
          go_wp2_with fail
          go_roundw
          case rel => exact ⟨k + 1, by omega, by go_num, hid (HF2.out HE.out), Quiet.more HQ _⟩
          case measure => simp [intOf]; omega
        · have he' := Bool.eq_false_iff.2 he
          have HE := hid he'
          rw [he'] at cq
          have CQ := hid cq
          clear he he' cq
          go_wp2_with fail
          go_quiet ((go_at_call 13; exact Calls.quiet_of (CQ.out _)))
          go_wp2_with fail
          go_ret
          exact ⟨ret_bool (HN.out HE.out).symm, Quiet.more HQ _⟩
      · obtain rfl : k = n := by omega
        go_wp2_with fail
        go_ret
        exact ⟨ret_bool (sameR_yes (by rw [HL.out, HL'.out]) (by rw [HL.out]; exact HF.out)).symm, HQ⟩
  · have hb : ((n : Int) != (m : Int)) = true := by simp; omega
    have HR : Hid (sameR rs ss = false) := hid (by
      unfold sameR; rw [decide_eq_false_iff_not]
      intro e
      have : (numsOf rs).length = (numsOf ss).length := by rw [e]
      simp [numsOf] at this
      omega)
    go_enter Try.func18, Try.ntmps18
    go_wp2_with fail
    go_ret
    exact ⟨ret_bool HR.out.symm, ⟨0, rfl⟩⟩


set_option maxHeartbeats 800000 in
theorem wLess_any (a b : Option Addr) (n cap cap' : Nat) (xs ys : List Int) (w : World) (h : Has w a n cap xs) (h' : Has w b n cap' ys) :
    Calls Try.prog 20 #[.slice a n cap, .slice b n cap'] w fun e w' => e = .returned (.bool (lexLess xs ys)) ∧ Quiet w w' := by
  obtain ⟨h0, h1, h2, h3, h4⟩ := h
  obtain ⟨k0, k1, k2, k3, k4⟩ := h'
  have HL := hid h0
  have HL' := hid k0
  clear h0 k0
  go_enter Try.func20, Try.ntmps20
  go_wp2_with fail
  go_loopw [8] (fun i wr => ∃ k : Nat, k ≤ n ∧ i = .int .i64 k ∧ Hid (∀ i, i < k → nth xs i = nth ys i) ∧ Quiet w wr) (fun i _ => n - (intOf i).toNat)
  case atStart => exact ⟨0, Nat.zero_le _, rfl, hid (fun i hi => by omega), ⟨0, rfl⟩⟩
  case round =>
    obtain ⟨k, hk, rfl, HF, q, hq⟩ := hrel
    subst hq
    by_cases hlt : k < n
    · obtain ⟨b1, off1, rfl, hb1, hc1⟩ := h4 (by omega)
      obtain ⟨b2, off2, rfl, hb2, hc2⟩ := k4 (by omega)
      have hck := hc1 k hlt
      have hdk := hc2 k hlt
      have hkk : (k : Int) < (n : Int) := by omega
      have hkz : (0 : Int) ≤ (k : Int) := by omega
      have HX := hid (fun (hne : nth xs k ≠ nth ys k) => lexLess_at k xs ys (by rw [HL.out]; exact hlt) (by rw [HL.out, HL'.out]) HF.out hne)
      clear hc1 hc2 h4 k4
      by_cases he : nth xs k = nth ys k
      · have hbe : (nth xs k != nth ys k) = false := by simp [he]
        have HE := hid he
        clear he
        go_wp2_with fail
        go_quiet (fail)
        go_wp2_with fail
        go_roundw
        case rel => exact ⟨k + 1, by omega, by go_num, hid (fun i hi => by rcases Nat.lt_succ_iff_lt_or_eq.1 hi with h | rfl; exact HF.out i h; exact HE.out), ⟨_, rfl⟩⟩
        case measure => simp [intOf]; omega
      · have hbe : (nth xs k != nth ys k) = true := by simp [he]
        have HR := hid (HX.out he)
        clear he HX
        go_wp2_with fail
        go_quiet (fail)
        go_wp2_with fail
        go_quiet (fail)
        go_wp2_with fail
        go_ret
        exact ⟨ret_bool HR.out.symm, (Quiet.more (Quiet.more ⟨_, rfl⟩ _) _)⟩
    · obtain rfl : k = n := by omega
      have HR : Hid (lexLess xs ys = false) := hid (by
        rw [ext_nth (xs := xs) (ys := ys) (by rw [HL.out, HL'.out]) (by rw [HL.out]; exact HF.out)]
        exact lexLess_same _)
      go_wp2_with fail
      go_ret
      exact ⟨ret_bool HR.out.symm, ⟨_, rfl⟩⟩

end Go.Proofs.Ytfkejkkplafciad

namespace Go.Proofs.Ytfkejkkplafciad
open Go.RowKit

theorem wk_no {n a : Int} (h : ¬ slB n a = true) : allWkOf n a = ([], false) ∧ cntWkOf n a = (0, false) := by simp [allWkOf, cntWkOf, h]
theorem wk_cnt {n a : Nat} (hs : slN n a = true) : cntWkOf (n : Int) (a : Int) = ((cntWkN n a : Int), true) := by
  unfold cntWkOf
  rw [slB_nat, hs]
  simp only [if_true, Int.toNat_natCast]
theorem wk_all {n a : Nat} (hs : slN n a = true) (h : cntWkN n a ≤ 700) : allWkOf (n : Int) (a : Int) = (allW (bnds n a), true) ∧ (allW (bnds n a)).length = cntWkN n a := by
  obtain ⟨⟨h1, h2⟩, ⟨h3, h4⟩, _⟩ := slN_iff.1 hs
  refine ⟨?_, walks_count n (by omega) a (by omega) hs h⟩
  unfold allWkOf
  simp only [Int.toNat_natCast]
  rw [slB_nat, hs]
  simp [h]
theorem wk_many {n a : Nat} (h : ¬ cntWkN n a ≤ 700) : allWkOf (n : Int) (a : Int) = ([], false) := by
  unfold allWkOf
  simp only [Int.toNat_natCast]
  simp [h]
theorem wk_other {n a c : Nat} (hs : slN n a = true) (hc : cntWkN n a = c) : cntWkOf (a : Int) (n : Int) = ((c : Int), true) ∨ cntWkOf (a : Int) (n : Int) = (0, false) := by
  by_cases h : slB (a : Int) (n : Int) = true
  · rw [slB_nat] at h
    have k1 := slN_iff.1 hs
    have k2 := slN_iff.1 h
    left
    rw [wk_cnt h, cnt_sym n (by omega) a (by omega) hs, hc]
  · right
    exact (wk_no h).2

set_option maxRecDepth 100000 in
set_option maxHeartbeats 16000000 in
theorem slwalks_walk (a b : Option Addr) (n m cap cap' : Nat) (w : World) (hn : n ≤ maxLen) (h : n ≤ 1048576 → HasB w a n w.heap.size) (h' : m ≤ 1048576 → HasB w b m w.heap.size) :
    Calls Try.prog 5 #[.slice a n cap, .slice b m cap'] w (Holds w) := by
  have H1 := hid h
  have H2 := hid h'
  have HN := hid hn
  clear h h' hn
  have hB : Below w.heap.size w w := Below.refl _ _
  go_enter Try.func5, Try.ntmps5
  go_wp2_with fail
  refine (big_any _ _ _ _ _ _ _ (by have := HN.out; unfold maxLen at this; omega)).mono ?_
  rintro e _ ⟨r, rfl, hr, rfl⟩
  have HR := hid hr
  clear hr
  cases r with
  | true =>
    go_wp2_with fail
    go_ret
    exact ⟨rfl, hB⟩
  | false =>
    have hnm := HR.out rfl
    clear HR
    have HA := hid (H1.out (by omega))
    have HM := hid (H2.out (by omega))
    clear H1 H2 HN
    go_wp2_with fail
    refine (drawAllWalks_any _ _ _ _ HA.out).mono ?_
    rintro e v1 ⟨nn, aa, rfl, n0, n1, b0, b1, st⟩
    replace hB := hB.trans (st.mono hB.size)
    clear st
    by_cases hN : slB nn aa = true
    · skip
      obtain ⟨k, s, rfl, rfl, hs⟩ := slB_iff.1 hN
      obtain ⟨c, hc⟩ : ∃ c, cntWkN k s = c := ⟨_, rfl⟩
      have HCT : Hid (cntWkOf (k : Int) (s : Int) = ((c : Int), true)) := hid (by rw [wk_cnt hs, hc])
      have HOT := hid (wk_other hs hc)
      clear hN n0 n1 b0 b1
      have hne := neq_self_int (c : Int)
      by_cases h7 : c ≤ 700
      · skip
        obtain ⟨f1, f2⟩ := wk_all hs (by rw [hc]; exact h7)
        have HAL := hid f1
        have HLN := hid f2
        have HC := hid hc
        clear f1 f2 hc hs
        go_wp2_with fail
        refine (implAllWk_any _ _ _).mono ?_
        rw [HAL.out]
        rintro e v2 ⟨a_g, n_g, c_g, rs, rfl, R_g, hng, st⟩
        replace hB := hB.trans (st.mono hB.size)
        clear st
        go_wp2_with fail
        refine (specAllWk_any _ _ _).mono ?_
        rw [HAL.out]
        rintro e v3 ⟨a_s, n_s, c_s, ss, rfl, R_s, hns, st⟩
        replace R_g := R_g.below st (Nat.le_refl _)
        replace hB := hB.trans (st.mono hB.size)
        clear st
        have HRS : Hid (sameR rs ss = true) := hid (sameR_self' (hng.trans hns.symm))
        obtain rfl : c = n_g := by rw [← HC.out, ← HLN.out, ← hng]; exact (numsOf_len R_g)
        clear hng hns
        go_wp2_with fail
        refine (implCntWk_any _ _ _).mono ?_
        rw [HCT.out]
        rintro e v4 ⟨rfl, st⟩
        replace R_g := R_g.below st (Nat.le_refl _)
        replace R_s := R_s.below st (Nat.le_refl _)
        replace hB := hB.trans (st.mono hB.size)
        clear st
        go_wp2_with fail
        refine (specCntWk_any _ _ _).mono ?_
        rw [HCT.out]
        rintro e v5 ⟨rfl, st⟩
        replace R_g := R_g.below st (Nat.le_refl _)
        replace R_s := R_s.below st (Nat.le_refl _)
        replace hB := hB.trans (st.mono hB.size)
        clear st
        go_wp2_with fail
        refine (wRows_any _ _ _ _ _ _ _ _ _ R_g.has R_s.has).mono ?_
        rintro e v6 ⟨rfl, q⟩
        have st : Below v5.heap.size v5 v6 := q.below _
        replace R_g := R_g.below st (Nat.le_refl _)
        replace R_s := R_s.below st (Nat.le_refl _)
        replace hB := hB.trans (st.mono hB.size)
        clear st
        clear q
        rw [HRS.out]
        clear HRS R_s R_g
        rcases HOT.out with ho | ho
        · skip
          have HO := hid ho
          clear ho
          go_wp2_with fail
          refine (implCntWk_any _ _ _).mono ?_
          rw [HO.out]
          rintro e v7 ⟨rfl, st⟩
          replace hB := hB.trans (st.mono hB.size)
          clear st
          go_wp2_with fail
          refine (drawTurnWk_any b m cap' _ (HM.out.grow hB (Nat.le_refl _))).mono ?_
          rintro e v8 ⟨a_m, n_m, c_m, ys, wd, rfl, o_m, hnm2, d0, d1, st⟩
          replace hB := hB.trans (st.mono hB.size)
          clear st
          by_cases hw : isWalkSl ys wd = true
          · skip
            by_cases hs2 : slB wd (n_m : Int) = true
            · skip
              obtain ⟨ls, f1, f2, f3⟩ := level_facts hw o_m.len
              have HLS := hid f1
              have HLL := hid f2
              have HL3 := hid f3
              clear f1 f2 f3
              obtain ⟨q, e, -⟩ := wk_parts hw o_m.len
              subst e
              obtain ⟨f1, f2, f3, f4, f5, f6⟩ := turn_twice hw o_m.len hs2
              have HTW := hid f1
              have HTL := hid f2
              have HTB := hid f3
              have HAR := hid f4
              have HC1 := hid f5
              have HC2 := hid f6
              clear f1 f2 f3 f4 f5 f6 hw hs2
              obtain ⟨ts, hts⟩ : ∃ ts, wkTurn ys q = ts := ⟨_, rfl⟩
              rw [hts] at HTW HTL HTB HAR HC2
              clear hts
              obtain ⟨ar, har⟩ : ∃ ar, areaSl ts q n_m = ar := ⟨_, rfl⟩
              rw [har] at HAR
              have HA2 := hid har
              have hea := neq_self_int ar
              clear har
              go_wp2_with fail
              refine (implTurnWk_any _ _ _ _ _ _ o_m.has).mono ?_
              rw [HTW.out]
              rintro e v9 ⟨a_t, n_t, c_t, rfl, o_t, st⟩
              replace o_m := o_m.below st (Nat.le_refl _)
              replace hB := hB.trans (st.mono hB.size)
              clear st
              go_wp2_with fail
              refine (specTurnWk_any _ _ _ _ _ _ o_m.has).mono ?_
              rw [HTW.out]
              rintro e v10 ⟨a_u, n_u, c_u, rfl, o_u, st⟩
              replace o_m := o_m.below st (Nat.le_refl _)
              replace o_t := o_t.below st (Nat.le_refl _)
              replace hB := hB.trans (st.mono hB.size)
              clear st
              go_wp2_with fail
              refine (implLevels_any _ _ _ _ _ _ o_m.has).mono ?_
              rw [HLS.out]
              rintro e v11 ⟨a_v, n_v, c_v, rfl, o_v, st⟩
              replace o_m := o_m.below st (Nat.le_refl _)
              replace o_t := o_t.below st (Nat.le_refl _)
              replace o_u := o_u.below st (Nat.le_refl _)
              replace hB := hB.trans (st.mono hB.size)
              clear st
              go_wp2_with fail
              refine (specLevels_any _ _ _ _ _ _ o_m.has).mono ?_
              rw [HLS.out]
              rintro e v12 ⟨a_x, n_x, c_x, rfl, o_x, st⟩
              replace o_m := o_m.below st (Nat.le_refl _)
              replace o_t := o_t.below st (Nat.le_refl _)
              replace o_u := o_u.below st (Nat.le_refl _)
              replace o_v := o_v.below st (Nat.le_refl _)
              replace hB := hB.trans (st.mono hB.size)
              clear st
              go_wp2_with fail
              refine (wSame_any _ _ _ _ _ _ _ _ _ o_t.has o_u.has).mono ?_
              rintro e v13 ⟨rfl, q⟩
              have st : Below v12.heap.size v12 v13 := q.below _
              replace o_m := o_m.below st (Nat.le_refl _)
              replace o_t := o_t.below st (Nat.le_refl _)
              replace o_u := o_u.below st (Nat.le_refl _)
              replace o_v := o_v.below st (Nat.le_refl _)
              replace o_x := o_x.below st (Nat.le_refl _)
              replace hB := hB.trans (st.mono hB.size)
              clear st
              clear q
              rw [same_self]
              clear o_u
              go_wp2_with fail
              refine (wSame_any _ _ _ _ _ _ _ _ _ o_v.has o_x.has).mono ?_
              rintro e v14 ⟨rfl, q⟩
              have st : Below v13.heap.size v13 v14 := q.below _
              replace o_m := o_m.below st (Nat.le_refl _)
              replace o_t := o_t.below st (Nat.le_refl _)
              replace o_v := o_v.below st (Nat.le_refl _)
              replace o_x := o_x.below st (Nat.le_refl _)
              replace hB := hB.trans (st.mono hB.size)
              clear st
              clear q
              rw [same_self]
              clear o_x
              obtain rfl : n_t = q := by rw [← o_t.len, HTL.out]
              go_wp2_with fail
              refine (implTurnWk_any _ _ _ _ _ _ o_t.has).mono ?_
              rw [HTB.out]
              rintro e v15 ⟨a_b, n_b, c_b, rfl, o_b, st⟩
              replace o_m := o_m.below st (Nat.le_refl _)
              replace o_t := o_t.below st (Nat.le_refl _)
              replace o_v := o_v.below st (Nat.le_refl _)
              replace hB := hB.trans (st.mono hB.size)
              clear st
              go_wp2_with fail
              refine (implArea_any _ _ _ _ _ _ o_m.has HC1.out).mono ?_
              rw [HAR.out]
              rintro e v16 ⟨rfl, st⟩
              replace o_m := o_m.below st (Nat.le_refl _)
              replace o_t := o_t.below st (Nat.le_refl _)
              replace o_v := o_v.below st (Nat.le_refl _)
              replace o_b := o_b.below st (Nat.le_refl _)
              replace hB := hB.trans (st.mono hB.size)
              clear st
              go_wp2_with fail
              refine (implArea_any _ _ _ _ _ _ o_t.has HC2.out).mono ?_
              rw [HA2.out]
              rintro e v17 ⟨rfl, st⟩
              replace o_m := o_m.below st (Nat.le_refl _)
              replace o_t := o_t.below st (Nat.le_refl _)
              replace o_v := o_v.below st (Nat.le_refl _)
              replace o_b := o_b.below st (Nat.le_refl _)
              replace hB := hB.trans (st.mono hB.size)
              clear st
              go_wp2_with fail
              refine (wSame_any _ _ _ _ _ _ _ _ _ o_b.has o_m.has).mono ?_
              rintro e v18 ⟨rfl, q⟩
              have st : Below v17.heap.size v17 v18 := q.below _
              replace o_m := o_m.below st (Nat.le_refl _)
              replace o_t := o_t.below st (Nat.le_refl _)
              replace o_v := o_v.below st (Nat.le_refl _)
              replace o_b := o_b.below st (Nat.le_refl _)
              replace hB := hB.trans (st.mono hB.size)
              clear st
              clear q
              rw [same_self]
              clear o_b
              obtain rfl : n_v = n_m := by rw [← o_v.len, HLL.out]
              have HLV := HL3
              clear o_t o_m
              go_wp2_with fail
              go_loop [201] (fun i => ∃ k : Nat, k ≤ n_v ∧ i = .int .i64 (k : Int)) (fun i => n_v - (intOf i).toNat)
              case atStart => exact ⟨0, by omega, rfl⟩
              case round =>
                obtain ⟨k, hk, rfl⟩ := hrel
                by_cases hlt : k < n_v
                · skip
                  obtain ⟨b0, off, rfl, hbb, hc⟩ := o_v.has.2.2.2.2 (by omega)
                  have hck := hc k hlt
                  obtain ⟨l0, lh⟩ := HLV.out k hlt
                  have HLH := hid lh
                  have hvc := o_v.has.2.1
                  have hvm := o_v.has.2.2.1
                  have HV := o_v.has.take (k := k) (by omega)
                  clear hc lh
                  generalize nth ls k = u at *
                  have hl0 : ¬ u < 0 := by omega
                  go_wp2_with fail
                  refine (wHas_any _ _ _ _ _ _ HV).mono ?_
                  rw [HLH.out]
                  rintro e _ ⟨rfl, rfl⟩
                  go_wp2_with fail
                  go_round
                  case rel => exact ⟨k + 1, by omega, by go_num⟩
                  case measure => simp [intOf]; omega
                · skip
                  obtain rfl : k = n_v := by omega
                  go_wp2_with fail
                  go_ret
                  exact ⟨rfl, hB⟩
            · skip
              obtain ⟨ls, f1, f2, f3⟩ := level_facts hw o_m.len
              have HLS := hid f1
              have HLL := hid f2
              have HL3 := hid f3
              clear f1 f2 f3
              have HTW := hid (turnWk_not (xs := ys) (a := wd) (fun hh => hs2 (by have := hh.2; rwa [o_m.len] at this)))
              clear hw hs2
              go_wp2_with fail
              refine (implTurnWk_any _ _ _ _ _ _ o_m.has).mono ?_
              rw [HTW.out]
              rintro e v9 ⟨a_t, n_t, c_t, rfl, o_t, st⟩
              replace o_m := o_m.below st (Nat.le_refl _)
              replace hB := hB.trans (st.mono hB.size)
              clear st
              go_wp2_with fail
              refine (specTurnWk_any _ _ _ _ _ _ o_m.has).mono ?_
              rw [HTW.out]
              rintro e v10 ⟨a_u, n_u, c_u, rfl, o_u, st⟩
              replace o_m := o_m.below st (Nat.le_refl _)
              replace o_t := o_t.below st (Nat.le_refl _)
              replace hB := hB.trans (st.mono hB.size)
              clear st
              go_wp2_with fail
              refine (implLevels_any _ _ _ _ _ _ o_m.has).mono ?_
              rw [HLS.out]
              rintro e v11 ⟨a_v, n_v, c_v, rfl, o_v, st⟩
              replace o_m := o_m.below st (Nat.le_refl _)
              replace o_t := o_t.below st (Nat.le_refl _)
              replace o_u := o_u.below st (Nat.le_refl _)
              replace hB := hB.trans (st.mono hB.size)
              clear st
              go_wp2_with fail
              refine (specLevels_any _ _ _ _ _ _ o_m.has).mono ?_
              rw [HLS.out]
              rintro e v12 ⟨a_x, n_x, c_x, rfl, o_x, st⟩
              replace o_m := o_m.below st (Nat.le_refl _)
              replace o_t := o_t.below st (Nat.le_refl _)
              replace o_u := o_u.below st (Nat.le_refl _)
              replace o_v := o_v.below st (Nat.le_refl _)
              replace hB := hB.trans (st.mono hB.size)
              clear st
              go_wp2_with fail
              refine (wSame_any _ _ _ _ _ _ _ _ _ o_t.has o_u.has).mono ?_
              rintro e v13 ⟨rfl, q⟩
              have st : Below v12.heap.size v12 v13 := q.below _
              replace o_m := o_m.below st (Nat.le_refl _)
              replace o_t := o_t.below st (Nat.le_refl _)
              replace o_u := o_u.below st (Nat.le_refl _)
              replace o_v := o_v.below st (Nat.le_refl _)
              replace o_x := o_x.below st (Nat.le_refl _)
              replace hB := hB.trans (st.mono hB.size)
              clear st
              clear q
              rw [same_self]
              clear o_u
              go_wp2_with fail
              refine (wSame_any _ _ _ _ _ _ _ _ _ o_v.has o_x.has).mono ?_
              rintro e v14 ⟨rfl, q⟩
              have st : Below v13.heap.size v13 v14 := q.below _
              replace o_m := o_m.below st (Nat.le_refl _)
              replace o_t := o_t.below st (Nat.le_refl _)
              replace o_v := o_v.below st (Nat.le_refl _)
              replace o_x := o_x.below st (Nat.le_refl _)
              replace hB := hB.trans (st.mono hB.size)
              clear st
              clear q
              rw [same_self]
              clear o_x
              obtain rfl : n_v = n_m := by rw [← o_v.len, HLL.out]
              have HLV := HL3
              clear o_t o_m
              go_wp2_with fail
              go_loop [201] (fun i => ∃ k : Nat, k ≤ n_v ∧ i = .int .i64 (k : Int)) (fun i => n_v - (intOf i).toNat)
              case atStart => exact ⟨0, by omega, rfl⟩
              case round =>
                obtain ⟨k, hk, rfl⟩ := hrel
                by_cases hlt : k < n_v
                · skip
                  obtain ⟨b0, off, rfl, hbb, hc⟩ := o_v.has.2.2.2.2 (by omega)
                  have hck := hc k hlt
                  obtain ⟨l0, lh⟩ := HLV.out k hlt
                  have HLH := hid lh
                  have hvc := o_v.has.2.1
                  have hvm := o_v.has.2.2.1
                  have HV := o_v.has.take (k := k) (by omega)
                  clear hc lh
                  generalize nth ls k = u at *
                  have hl0 : ¬ u < 0 := by omega
                  go_wp2_with fail
                  refine (wHas_any _ _ _ _ _ _ HV).mono ?_
                  rw [HLH.out]
                  rintro e _ ⟨rfl, rfl⟩
                  go_wp2_with fail
                  go_round
                  case rel => exact ⟨k + 1, by omega, by go_num⟩
                  case measure => simp [intOf]; omega
                · skip
                  obtain rfl : k = n_v := by omega
                  go_wp2_with fail
                  go_ret
                  exact ⟨rfl, hB⟩
          · skip
            have HTW := hid (turnWk_not (xs := ys) (a := wd) (fun hh => hw hh.1))
            have HLS := hid (levels_not hw)
            clear hw
            go_wp2_with fail
            refine (implTurnWk_any _ _ _ _ _ _ o_m.has).mono ?_
            rw [HTW.out]
            rintro e v9 ⟨a_t, n_t, c_t, rfl, o_t, st⟩
            replace o_m := o_m.below st (Nat.le_refl _)
            replace hB := hB.trans (st.mono hB.size)
            clear st
            go_wp2_with fail
            refine (specTurnWk_any _ _ _ _ _ _ o_m.has).mono ?_
            rw [HTW.out]
            rintro e v10 ⟨a_u, n_u, c_u, rfl, o_u, st⟩
            replace o_m := o_m.below st (Nat.le_refl _)
            replace o_t := o_t.below st (Nat.le_refl _)
            replace hB := hB.trans (st.mono hB.size)
            clear st
            go_wp2_with fail
            refine (implLevels_any _ _ _ _ _ _ o_m.has).mono ?_
            rw [HLS.out]
            rintro e v11 ⟨a_v, n_v, c_v, rfl, o_v, st⟩
            replace o_m := o_m.below st (Nat.le_refl _)
            replace o_t := o_t.below st (Nat.le_refl _)
            replace o_u := o_u.below st (Nat.le_refl _)
            replace hB := hB.trans (st.mono hB.size)
            clear st
            go_wp2_with fail
            refine (specLevels_any _ _ _ _ _ _ o_m.has).mono ?_
            rw [HLS.out]
            rintro e v12 ⟨a_x, n_x, c_x, rfl, o_x, st⟩
            replace o_m := o_m.below st (Nat.le_refl _)
            replace o_t := o_t.below st (Nat.le_refl _)
            replace o_u := o_u.below st (Nat.le_refl _)
            replace o_v := o_v.below st (Nat.le_refl _)
            replace hB := hB.trans (st.mono hB.size)
            clear st
            go_wp2_with fail
            refine (wSame_any _ _ _ _ _ _ _ _ _ o_t.has o_u.has).mono ?_
            rintro e v13 ⟨rfl, q⟩
            have st : Below v12.heap.size v12 v13 := q.below _
            replace o_m := o_m.below st (Nat.le_refl _)
            replace o_t := o_t.below st (Nat.le_refl _)
            replace o_u := o_u.below st (Nat.le_refl _)
            replace o_v := o_v.below st (Nat.le_refl _)
            replace o_x := o_x.below st (Nat.le_refl _)
            replace hB := hB.trans (st.mono hB.size)
            clear st
            clear q
            rw [same_self]
            clear o_u
            go_wp2_with fail
            refine (wSame_any _ _ _ _ _ _ _ _ _ o_v.has o_x.has).mono ?_
            rintro e v14 ⟨rfl, q⟩
            have st : Below v13.heap.size v13 v14 := q.below _
            replace o_m := o_m.below st (Nat.le_refl _)
            replace o_t := o_t.below st (Nat.le_refl _)
            replace o_v := o_v.below st (Nat.le_refl _)
            replace o_x := o_x.below st (Nat.le_refl _)
            replace hB := hB.trans (st.mono hB.size)
            clear st
            clear q
            rw [same_self]
            clear o_x
            obtain ⟨ls, hls⟩ : ∃ ls : List Int, ls = [] := ⟨_, rfl⟩
            have hnv : n_v = 0 := by rw [← o_v.len]; rfl
            have HLV : Hid (∀ k, k < n_v → 0 ≤ nth ls k ∧ hasB (ls.take k) (nth ls k) = false) := hid (fun k hk => by omega)
            rw [← hls] at o_v
            have hv10 : n_v ≤ 10 := by omega
            clear hls hnv
            clear o_t o_m
            go_wp2_with fail
            go_loop [201] (fun i => ∃ k : Nat, k ≤ n_v ∧ i = .int .i64 (k : Int)) (fun i => n_v - (intOf i).toNat)
            case atStart => exact ⟨0, by omega, rfl⟩
            case round =>
              obtain ⟨k, hk, rfl⟩ := hrel
              by_cases hlt : k < n_v
              · skip
                obtain ⟨b0, off, rfl, hbb, hc⟩ := o_v.has.2.2.2.2 (by omega)
                have hck := hc k hlt
                obtain ⟨l0, lh⟩ := HLV.out k hlt
                have HLH := hid lh
                have hvc := o_v.has.2.1
                have hvm := o_v.has.2.2.1
                have HV := o_v.has.take (k := k) (by omega)
                clear hc lh
                generalize nth ls k = u at *
                have hl0 : ¬ u < 0 := by omega
                go_wp2_with fail
                refine (wHas_any _ _ _ _ _ _ HV).mono ?_
                rw [HLH.out]
                rintro e _ ⟨rfl, rfl⟩
                go_wp2_with fail
                go_round
                case rel => exact ⟨k + 1, by omega, by go_num⟩
                case measure => simp [intOf]; omega
              · skip
                obtain rfl : k = n_v := by omega
                go_wp2_with fail
                go_ret
                exact ⟨rfl, hB⟩
        · skip
          have HO := hid ho
          clear ho
          go_wp2_with fail
          refine (implCntWk_any _ _ _).mono ?_
          rw [HO.out]
          rintro e v7 ⟨rfl, st⟩
          replace hB := hB.trans (st.mono hB.size)
          clear st
          go_wp2_with fail
          refine (drawTurnWk_any b m cap' _ (HM.out.grow hB (Nat.le_refl _))).mono ?_
          rintro e v8 ⟨a_m, n_m, c_m, ys, wd, rfl, o_m, hnm2, d0, d1, st⟩
          replace hB := hB.trans (st.mono hB.size)
          clear st
          by_cases hw : isWalkSl ys wd = true
          · skip
            by_cases hs2 : slB wd (n_m : Int) = true
            · skip
              obtain ⟨ls, f1, f2, f3⟩ := level_facts hw o_m.len
              have HLS := hid f1
              have HLL := hid f2
              have HL3 := hid f3
              clear f1 f2 f3
              obtain ⟨q, e, -⟩ := wk_parts hw o_m.len
              subst e
              obtain ⟨f1, f2, f3, f4, f5, f6⟩ := turn_twice hw o_m.len hs2
              have HTW := hid f1
              have HTL := hid f2
              have HTB := hid f3
              have HAR := hid f4
              have HC1 := hid f5
              have HC2 := hid f6
              clear f1 f2 f3 f4 f5 f6 hw hs2
              obtain ⟨ts, hts⟩ : ∃ ts, wkTurn ys q = ts := ⟨_, rfl⟩
              rw [hts] at HTW HTL HTB HAR HC2
              clear hts
              obtain ⟨ar, har⟩ : ∃ ar, areaSl ts q n_m = ar := ⟨_, rfl⟩
              rw [har] at HAR
              have HA2 := hid har
              have hea := neq_self_int ar
              clear har
              go_wp2_with fail
              refine (implTurnWk_any _ _ _ _ _ _ o_m.has).mono ?_
              rw [HTW.out]
              rintro e v9 ⟨a_t, n_t, c_t, rfl, o_t, st⟩
              replace o_m := o_m.below st (Nat.le_refl _)
              replace hB := hB.trans (st.mono hB.size)
              clear st
              go_wp2_with fail
              refine (specTurnWk_any _ _ _ _ _ _ o_m.has).mono ?_
              rw [HTW.out]
              rintro e v10 ⟨a_u, n_u, c_u, rfl, o_u, st⟩
              replace o_m := o_m.below st (Nat.le_refl _)
              replace o_t := o_t.below st (Nat.le_refl _)
              replace hB := hB.trans (st.mono hB.size)
              clear st
              go_wp2_with fail
              refine (implLevels_any _ _ _ _ _ _ o_m.has).mono ?_
              rw [HLS.out]
              rintro e v11 ⟨a_v, n_v, c_v, rfl, o_v, st⟩
              replace o_m := o_m.below st (Nat.le_refl _)
              replace o_t := o_t.below st (Nat.le_refl _)
              replace o_u := o_u.below st (Nat.le_refl _)
              replace hB := hB.trans (st.mono hB.size)
              clear st
              go_wp2_with fail
              refine (specLevels_any _ _ _ _ _ _ o_m.has).mono ?_
              rw [HLS.out]
              rintro e v12 ⟨a_x, n_x, c_x, rfl, o_x, st⟩
              replace o_m := o_m.below st (Nat.le_refl _)
              replace o_t := o_t.below st (Nat.le_refl _)
              replace o_u := o_u.below st (Nat.le_refl _)
              replace o_v := o_v.below st (Nat.le_refl _)
              replace hB := hB.trans (st.mono hB.size)
              clear st
              go_wp2_with fail
              refine (wSame_any _ _ _ _ _ _ _ _ _ o_t.has o_u.has).mono ?_
              rintro e v13 ⟨rfl, q⟩
              have st : Below v12.heap.size v12 v13 := q.below _
              replace o_m := o_m.below st (Nat.le_refl _)
              replace o_t := o_t.below st (Nat.le_refl _)
              replace o_u := o_u.below st (Nat.le_refl _)
              replace o_v := o_v.below st (Nat.le_refl _)
              replace o_x := o_x.below st (Nat.le_refl _)
              replace hB := hB.trans (st.mono hB.size)
              clear st
              clear q
              rw [same_self]
              clear o_u
              go_wp2_with fail
              refine (wSame_any _ _ _ _ _ _ _ _ _ o_v.has o_x.has).mono ?_
              rintro e v14 ⟨rfl, q⟩
              have st : Below v13.heap.size v13 v14 := q.below _
              replace o_m := o_m.below st (Nat.le_refl _)
              replace o_t := o_t.below st (Nat.le_refl _)
              replace o_v := o_v.below st (Nat.le_refl _)
              replace o_x := o_x.below st (Nat.le_refl _)
              replace hB := hB.trans (st.mono hB.size)
              clear st
              clear q
              rw [same_self]
              clear o_x
              obtain rfl : n_t = q := by rw [← o_t.len, HTL.out]
              go_wp2_with fail
              refine (implTurnWk_any _ _ _ _ _ _ o_t.has).mono ?_
              rw [HTB.out]
              rintro e v15 ⟨a_b, n_b, c_b, rfl, o_b, st⟩
              replace o_m := o_m.below st (Nat.le_refl _)
              replace o_t := o_t.below st (Nat.le_refl _)
              replace o_v := o_v.below st (Nat.le_refl _)
              replace hB := hB.trans (st.mono hB.size)
              clear st
              go_wp2_with fail
              refine (implArea_any _ _ _ _ _ _ o_m.has HC1.out).mono ?_
              rw [HAR.out]
              rintro e v16 ⟨rfl, st⟩
              replace o_m := o_m.below st (Nat.le_refl _)
              replace o_t := o_t.below st (Nat.le_refl _)
              replace o_v := o_v.below st (Nat.le_refl _)
              replace o_b := o_b.below st (Nat.le_refl _)
              replace hB := hB.trans (st.mono hB.size)
              clear st
              go_wp2_with fail
              refine (implArea_any _ _ _ _ _ _ o_t.has HC2.out).mono ?_
              rw [HA2.out]
              rintro e v17 ⟨rfl, st⟩
              replace o_m := o_m.below st (Nat.le_refl _)
              replace o_t := o_t.below st (Nat.le_refl _)
              replace o_v := o_v.below st (Nat.le_refl _)
              replace o_b := o_b.below st (Nat.le_refl _)
              replace hB := hB.trans (st.mono hB.size)
              clear st
              go_wp2_with fail
              refine (wSame_any _ _ _ _ _ _ _ _ _ o_b.has o_m.has).mono ?_
              rintro e v18 ⟨rfl, q⟩
              have st : Below v17.heap.size v17 v18 := q.below _
              replace o_m := o_m.below st (Nat.le_refl _)
              replace o_t := o_t.below st (Nat.le_refl _)
              replace o_v := o_v.below st (Nat.le_refl _)
              replace o_b := o_b.below st (Nat.le_refl _)
              replace hB := hB.trans (st.mono hB.size)
              clear st
              clear q
              rw [same_self]
              clear o_b
              obtain rfl : n_v = n_m := by rw [← o_v.len, HLL.out]
              have HLV := HL3
              clear o_t o_m
              go_wp2_with fail
              go_loop [201] (fun i => ∃ k : Nat, k ≤ n_v ∧ i = .int .i64 (k : Int)) (fun i => n_v - (intOf i).toNat)
              case atStart => exact ⟨0, by omega, rfl⟩
              case round =>
                obtain ⟨k, hk, rfl⟩ := hrel
                by_cases hlt : k < n_v
                · skip
                  obtain ⟨b0, off, rfl, hbb, hc⟩ := o_v.has.2.2.2.2 (by omega)
                  have hck := hc k hlt
                  obtain ⟨l0, lh⟩ := HLV.out k hlt
                  have HLH := hid lh
                  have hvc := o_v.has.2.1
                  have hvm := o_v.has.2.2.1
                  have HV := o_v.has.take (k := k) (by omega)
                  clear hc lh
                  generalize nth ls k = u at *
                  have hl0 : ¬ u < 0 := by omega
                  go_wp2_with fail
                  refine (wHas_any _ _ _ _ _ _ HV).mono ?_
                  rw [HLH.out]
                  rintro e _ ⟨rfl, rfl⟩
                  go_wp2_with fail
                  go_round
                  case rel => exact ⟨k + 1, by omega, by go_num⟩
                  case measure => simp [intOf]; omega
                · skip
                  obtain rfl : k = n_v := by omega
                  go_wp2_with fail
                  go_ret
                  exact ⟨rfl, hB⟩
            · skip
              obtain ⟨ls, f1, f2, f3⟩ := level_facts hw o_m.len
              have HLS := hid f1
              have HLL := hid f2
              have HL3 := hid f3
              clear f1 f2 f3
              have HTW := hid (turnWk_not (xs := ys) (a := wd) (fun hh => hs2 (by have := hh.2; rwa [o_m.len] at this)))
              clear hw hs2
              go_wp2_with fail
              refine (implTurnWk_any _ _ _ _ _ _ o_m.has).mono ?_
              rw [HTW.out]
              rintro e v9 ⟨a_t, n_t, c_t, rfl, o_t, st⟩
              replace o_m := o_m.below st (Nat.le_refl _)
              replace hB := hB.trans (st.mono hB.size)
              clear st
              go_wp2_with fail
              refine (specTurnWk_any _ _ _ _ _ _ o_m.has).mono ?_
              rw [HTW.out]
              rintro e v10 ⟨a_u, n_u, c_u, rfl, o_u, st⟩
              replace o_m := o_m.below st (Nat.le_refl _)
              replace o_t := o_t.below st (Nat.le_refl _)
              replace hB := hB.trans (st.mono hB.size)
              clear st
              go_wp2_with fail
              refine (implLevels_any _ _ _ _ _ _ o_m.has).mono ?_
              rw [HLS.out]
              rintro e v11 ⟨a_v, n_v, c_v, rfl, o_v, st⟩
              replace o_m := o_m.below st (Nat.le_refl _)
              replace o_t := o_t.below st (Nat.le_refl _)
              replace o_u := o_u.below st (Nat.le_refl _)
              replace hB := hB.trans (st.mono hB.size)
              clear st
              go_wp2_with fail
              refine (specLevels_any _ _ _ _ _ _ o_m.has).mono ?_
              rw [HLS.out]
              rintro e v12 ⟨a_x, n_x, c_x, rfl, o_x, st⟩
              replace o_m := o_m.below st (Nat.le_refl _)
              replace o_t := o_t.below st (Nat.le_refl _)
              replace o_u := o_u.below st (Nat.le_refl _)
              replace o_v := o_v.below st (Nat.le_refl _)
              replace hB := hB.trans (st.mono hB.size)
              clear st
              go_wp2_with fail
              refine (wSame_any _ _ _ _ _ _ _ _ _ o_t.has o_u.has).mono ?_
              rintro e v13 ⟨rfl, q⟩
              have st : Below v12.heap.size v12 v13 := q.below _
              replace o_m := o_m.below st (Nat.le_refl _)
              replace o_t := o_t.below st (Nat.le_refl _)
              replace o_u := o_u.below st (Nat.le_refl _)
              replace o_v := o_v.below st (Nat.le_refl _)
              replace o_x := o_x.below st (Nat.le_refl _)
              replace hB := hB.trans (st.mono hB.size)
              clear st
              clear q
              rw [same_self]
              clear o_u
              go_wp2_with fail
              refine (wSame_any _ _ _ _ _ _ _ _ _ o_v.has o_x.has).mono ?_
              rintro e v14 ⟨rfl, q⟩
              have st : Below v13.heap.size v13 v14 := q.below _
              replace o_m := o_m.below st (Nat.le_refl _)
              replace o_t := o_t.below st (Nat.le_refl _)
              replace o_v := o_v.below st (Nat.le_refl _)
              replace o_x := o_x.below st (Nat.le_refl _)
              replace hB := hB.trans (st.mono hB.size)
              clear st
              clear q
              rw [same_self]
              clear o_x
              obtain rfl : n_v = n_m := by rw [← o_v.len, HLL.out]
              have HLV := HL3
              clear o_t o_m
              go_wp2_with fail
              go_loop [201] (fun i => ∃ k : Nat, k ≤ n_v ∧ i = .int .i64 (k : Int)) (fun i => n_v - (intOf i).toNat)
              case atStart => exact ⟨0, by omega, rfl⟩
              case round =>
                obtain ⟨k, hk, rfl⟩ := hrel
                by_cases hlt : k < n_v
                · skip
                  obtain ⟨b0, off, rfl, hbb, hc⟩ := o_v.has.2.2.2.2 (by omega)
                  have hck := hc k hlt
                  obtain ⟨l0, lh⟩ := HLV.out k hlt
                  have HLH := hid lh
                  have hvc := o_v.has.2.1
                  have hvm := o_v.has.2.2.1
                  have HV := o_v.has.take (k := k) (by omega)
                  clear hc lh
                  generalize nth ls k = u at *
                  have hl0 : ¬ u < 0 := by omega
                  go_wp2_with fail
                  refine (wHas_any _ _ _ _ _ _ HV).mono ?_
                  rw [HLH.out]
                  rintro e _ ⟨rfl, rfl⟩
                  go_wp2_with fail
                  go_round
                  case rel => exact ⟨k + 1, by omega, by go_num⟩
                  case measure => simp [intOf]; omega
                · skip
                  obtain rfl : k = n_v := by omega
                  go_wp2_with fail
                  go_ret
                  exact ⟨rfl, hB⟩
          · skip
            have HTW := hid (turnWk_not (xs := ys) (a := wd) (fun hh => hw hh.1))
            have HLS := hid (levels_not hw)
            clear hw
            go_wp2_with fail
            refine (implTurnWk_any _ _ _ _ _ _ o_m.has).mono ?_
            rw [HTW.out]
            rintro e v9 ⟨a_t, n_t, c_t, rfl, o_t, st⟩
            replace o_m := o_m.below st (Nat.le_refl _)
            replace hB := hB.trans (st.mono hB.size)
            clear st
            go_wp2_with fail
            refine (specTurnWk_any _ _ _ _ _ _ o_m.has).mono ?_
            rw [HTW.out]
            rintro e v10 ⟨a_u, n_u, c_u, rfl, o_u, st⟩
            replace o_m := o_m.below st (Nat.le_refl _)
            replace o_t := o_t.below st (Nat.le_refl _)
            replace hB := hB.trans (st.mono hB.size)
            clear st
            go_wp2_with fail
            refine (implLevels_any _ _ _ _ _ _ o_m.has).mono ?_
            rw [HLS.out]
            rintro e v11 ⟨a_v, n_v, c_v, rfl, o_v, st⟩
            replace o_m := o_m.below st (Nat.le_refl _)
            replace o_t := o_t.below st (Nat.le_refl _)
            replace o_u := o_u.below st (Nat.le_refl _)
            replace hB := hB.trans (st.mono hB.size)
            clear st
            go_wp2_with fail
            refine (specLevels_any _ _ _ _ _ _ o_m.has).mono ?_
            rw [HLS.out]
            rintro e v12 ⟨a_x, n_x, c_x, rfl, o_x, st⟩
            replace o_m := o_m.below st (Nat.le_refl _)
            replace o_t := o_t.below st (Nat.le_refl _)
            replace o_u := o_u.below st (Nat.le_refl _)
            replace o_v := o_v.below st (Nat.le_refl _)
            replace hB := hB.trans (st.mono hB.size)
            clear st
            go_wp2_with fail
            refine (wSame_any _ _ _ _ _ _ _ _ _ o_t.has o_u.has).mono ?_
            rintro e v13 ⟨rfl, q⟩
            have st : Below v12.heap.size v12 v13 := q.below _
            replace o_m := o_m.below st (Nat.le_refl _)
            replace o_t := o_t.below st (Nat.le_refl _)
            replace o_u := o_u.below st (Nat.le_refl _)
            replace o_v := o_v.below st (Nat.le_refl _)
            replace o_x := o_x.below st (Nat.le_refl _)
            replace hB := hB.trans (st.mono hB.size)
            clear st
            clear q
            rw [same_self]
            clear o_u
            go_wp2_with fail
            refine (wSame_any _ _ _ _ _ _ _ _ _ o_v.has o_x.has).mono ?_
            rintro e v14 ⟨rfl, q⟩
            have st : Below v13.heap.size v13 v14 := q.below _
            replace o_m := o_m.below st (Nat.le_refl _)
            replace o_t := o_t.below st (Nat.le_refl _)
            replace o_v := o_v.below st (Nat.le_refl _)
            replace o_x := o_x.below st (Nat.le_refl _)
            replace hB := hB.trans (st.mono hB.size)
            clear st
            clear q
            rw [same_self]
            clear o_x
            obtain ⟨ls, hls⟩ : ∃ ls : List Int, ls = [] := ⟨_, rfl⟩
            have hnv : n_v = 0 := by rw [← o_v.len]; rfl
            have HLV : Hid (∀ k, k < n_v → 0 ≤ nth ls k ∧ hasB (ls.take k) (nth ls k) = false) := hid (fun k hk => by omega)
            rw [← hls] at o_v
            have hv10 : n_v ≤ 10 := by omega
            clear hls hnv
            clear o_t o_m
            go_wp2_with fail
            go_loop [201] (fun i => ∃ k : Nat, k ≤ n_v ∧ i = .int .i64 (k : Int)) (fun i => n_v - (intOf i).toNat)
            case atStart => exact ⟨0, by omega, rfl⟩
            case round =>
              obtain ⟨k, hk, rfl⟩ := hrel
              by_cases hlt : k < n_v
              · skip
                obtain ⟨b0, off, rfl, hbb, hc⟩ := o_v.has.2.2.2.2 (by omega)
                have hck := hc k hlt
                obtain ⟨l0, lh⟩ := HLV.out k hlt
                have HLH := hid lh
                have hvc := o_v.has.2.1
                have hvm := o_v.has.2.2.1
                have HV := o_v.has.take (k := k) (by omega)
                clear hc lh
                generalize nth ls k = u at *
                have hl0 : ¬ u < 0 := by omega
                go_wp2_with fail
                refine (wHas_any _ _ _ _ _ _ HV).mono ?_
                rw [HLH.out]
                rintro e _ ⟨rfl, rfl⟩
                go_wp2_with fail
                go_round
                case rel => exact ⟨k + 1, by omega, by go_num⟩
                case measure => simp [intOf]; omega
              · skip
                obtain rfl : k = n_v := by omega
                go_wp2_with fail
                go_ret
                exact ⟨rfl, hB⟩
      · skip
        have HAL := hid (wk_many (n := k) (a := s) (by rw [hc]; exact h7))
        clear hc hs
        go_wp2_with fail
        refine (implAllWk_any _ _ _).mono ?_
        rw [HAL.out]
        rintro e v2 ⟨a_g, n_g, c_g, rs, rfl, R_g, hng, st⟩
        replace hB := hB.trans (st.mono hB.size)
        clear st
        go_wp2_with fail
        refine (specAllWk_any _ _ _).mono ?_
        rw [HAL.out]
        rintro e v3 ⟨a_s, n_s, c_s, ss, rfl, R_s, hns, st⟩
        replace R_g := R_g.below st (Nat.le_refl _)
        replace hB := hB.trans (st.mono hB.size)
        clear st
        have HRS : Hid (sameR rs ss = true) := hid (sameR_self' (hng.trans hns.symm))
        clear hng hns
        go_wp2_with fail
        refine (implCntWk_any _ _ _).mono ?_
        rw [HCT.out]
        rintro e v4 ⟨rfl, st⟩
        replace R_g := R_g.below st (Nat.le_refl _)
        replace R_s := R_s.below st (Nat.le_refl _)
        replace hB := hB.trans (st.mono hB.size)
        clear st
        go_wp2_with fail
        refine (specCntWk_any _ _ _).mono ?_
        rw [HCT.out]
        rintro e v5 ⟨rfl, st⟩
        replace R_g := R_g.below st (Nat.le_refl _)
        replace R_s := R_s.below st (Nat.le_refl _)
        replace hB := hB.trans (st.mono hB.size)
        clear st
        go_wp2_with fail
        refine (wRows_any _ _ _ _ _ _ _ _ _ R_g.has R_s.has).mono ?_
        rintro e v6 ⟨rfl, q⟩
        have st : Below v5.heap.size v5 v6 := q.below _
        replace R_g := R_g.below st (Nat.le_refl _)
        replace R_s := R_s.below st (Nat.le_refl _)
        replace hB := hB.trans (st.mono hB.size)
        clear st
        clear q
        rw [HRS.out]
        clear HRS R_s R_g
        rcases HOT.out with ho | ho
        · skip
          have HO := hid ho
          clear ho
          go_wp2_with fail
          refine (implCntWk_any _ _ _).mono ?_
          rw [HO.out]
          rintro e v7 ⟨rfl, st⟩
          replace hB := hB.trans (st.mono hB.size)
          clear st
          go_wp2_with fail
          refine (drawTurnWk_any b m cap' _ (HM.out.grow hB (Nat.le_refl _))).mono ?_
          rintro e v8 ⟨a_m, n_m, c_m, ys, wd, rfl, o_m, hnm2, d0, d1, st⟩
          replace hB := hB.trans (st.mono hB.size)
          clear st
          by_cases hw : isWalkSl ys wd = true
          · skip
            by_cases hs2 : slB wd (n_m : Int) = true
            · skip
              obtain ⟨ls, f1, f2, f3⟩ := level_facts hw o_m.len
              have HLS := hid f1
              have HLL := hid f2
              have HL3 := hid f3
              clear f1 f2 f3
              obtain ⟨q, e, -⟩ := wk_parts hw o_m.len
              subst e
              obtain ⟨f1, f2, f3, f4, f5, f6⟩ := turn_twice hw o_m.len hs2
              have HTW := hid f1
              have HTL := hid f2
              have HTB := hid f3
              have HAR := hid f4
              have HC1 := hid f5
              have HC2 := hid f6
              clear f1 f2 f3 f4 f5 f6 hw hs2
              obtain ⟨ts, hts⟩ : ∃ ts, wkTurn ys q = ts := ⟨_, rfl⟩
              rw [hts] at HTW HTL HTB HAR HC2
              clear hts
              obtain ⟨ar, har⟩ : ∃ ar, areaSl ts q n_m = ar := ⟨_, rfl⟩
              rw [har] at HAR
              have HA2 := hid har
              have hea := neq_self_int ar
              clear har
              go_wp2_with fail
              refine (implTurnWk_any _ _ _ _ _ _ o_m.has).mono ?_
              rw [HTW.out]
              rintro e v9 ⟨a_t, n_t, c_t, rfl, o_t, st⟩
              replace o_m := o_m.below st (Nat.le_refl _)
              replace hB := hB.trans (st.mono hB.size)
              clear st
              go_wp2_with fail
              refine (specTurnWk_any _ _ _ _ _ _ o_m.has).mono ?_
              rw [HTW.out]
              rintro e v10 ⟨a_u, n_u, c_u, rfl, o_u, st⟩
              replace o_m := o_m.below st (Nat.le_refl _)
              replace o_t := o_t.below st (Nat.le_refl _)
              replace hB := hB.trans (st.mono hB.size)
              clear st
              go_wp2_with fail
              refine (implLevels_any _ _ _ _ _ _ o_m.has).mono ?_
              rw [HLS.out]
              rintro e v11 ⟨a_v, n_v, c_v, rfl, o_v, st⟩
              replace o_m := o_m.below st (Nat.le_refl _)
              replace o_t := o_t.below st (Nat.le_refl _)
              replace o_u := o_u.below st (Nat.le_refl _)
              replace hB := hB.trans (st.mono hB.size)
              clear st
              go_wp2_with fail
              refine (specLevels_any _ _ _ _ _ _ o_m.has).mono ?_
              rw [HLS.out]
              rintro e v12 ⟨a_x, n_x, c_x, rfl, o_x, st⟩
              replace o_m := o_m.below st (Nat.le_refl _)
              replace o_t := o_t.below st (Nat.le_refl _)
              replace o_u := o_u.below st (Nat.le_refl _)
              replace o_v := o_v.below st (Nat.le_refl _)
              replace hB := hB.trans (st.mono hB.size)
              clear st
              go_wp2_with fail
              refine (wSame_any _ _ _ _ _ _ _ _ _ o_t.has o_u.has).mono ?_
              rintro e v13 ⟨rfl, q⟩
              have st : Below v12.heap.size v12 v13 := q.below _
              replace o_m := o_m.below st (Nat.le_refl _)
              replace o_t := o_t.below st (Nat.le_refl _)
              replace o_u := o_u.below st (Nat.le_refl _)
              replace o_v := o_v.below st (Nat.le_refl _)
              replace o_x := o_x.below st (Nat.le_refl _)
              replace hB := hB.trans (st.mono hB.size)
              clear st
              clear q
              rw [same_self]
              clear o_u
              go_wp2_with fail
              refine (wSame_any _ _ _ _ _ _ _ _ _ o_v.has o_x.has).mono ?_
              rintro e v14 ⟨rfl, q⟩
              have st : Below v13.heap.size v13 v14 := q.below _
              replace o_m := o_m.below st (Nat.le_refl _)
              replace o_t := o_t.below st (Nat.le_refl _)
              replace o_v := o_v.below st (Nat.le_refl _)
              replace o_x := o_x.below st (Nat.le_refl _)
              replace hB := hB.trans (st.mono hB.size)
              clear st
              clear q
              rw [same_self]
              clear o_x
              obtain rfl : n_t = q := by rw [← o_t.len, HTL.out]
              go_wp2_with fail
              refine (implTurnWk_any _ _ _ _ _ _ o_t.has).mono ?_
              rw [HTB.out]
              rintro e v15 ⟨a_b, n_b, c_b, rfl, o_b, st⟩
              replace o_m := o_m.below st (Nat.le_refl _)
              replace o_t := o_t.below st (Nat.le_refl _)
              replace o_v := o_v.below st (Nat.le_refl _)
              replace hB := hB.trans (st.mono hB.size)
              clear st
              go_wp2_with fail
              refine (implArea_any _ _ _ _ _ _ o_m.has HC1.out).mono ?_
              rw [HAR.out]
              rintro e v16 ⟨rfl, st⟩
              replace o_m := o_m.below st (Nat.le_refl _)
              replace o_t := o_t.below st (Nat.le_refl _)
              replace o_v := o_v.below st (Nat.le_refl _)
              replace o_b := o_b.below st (Nat.le_refl _)
              replace hB := hB.trans (st.mono hB.size)
              clear st
              go_wp2_with fail
              refine (implArea_any _ _ _ _ _ _ o_t.has HC2.out).mono ?_
              rw [HA2.out]
              rintro e v17 ⟨rfl, st⟩
              replace o_m := o_m.below st (Nat.le_refl _)
              replace o_t := o_t.below st (Nat.le_refl _)
              replace o_v := o_v.below st (Nat.le_refl _)
              replace o_b := o_b.below st (Nat.le_refl _)
              replace hB := hB.trans (st.mono hB.size)
              clear st
              go_wp2_with fail
              refine (wSame_any _ _ _ _ _ _ _ _ _ o_b.has o_m.has).mono ?_
              rintro e v18 ⟨rfl, q⟩
              have st : Below v17.heap.size v17 v18 := q.below _
              replace o_m := o_m.below st (Nat.le_refl _)
              replace o_t := o_t.below st (Nat.le_refl _)
              replace o_v := o_v.below st (Nat.le_refl _)
              replace o_b := o_b.below st (Nat.le_refl _)
              replace hB := hB.trans (st.mono hB.size)
              clear st
              clear q
              rw [same_self]
              clear o_b
              obtain rfl : n_v = n_m := by rw [← o_v.len, HLL.out]
              have HLV := HL3
              clear o_t o_m
              go_wp2_with fail
              go_loop [201] (fun i => ∃ k : Nat, k ≤ n_v ∧ i = .int .i64 (k : Int)) (fun i => n_v - (intOf i).toNat)
              case atStart => exact ⟨0, by omega, rfl⟩
              case round =>
                obtain ⟨k, hk, rfl⟩ := hrel
                by_cases hlt : k < n_v
                · skip
                  obtain ⟨b0, off, rfl, hbb, hc⟩ := o_v.has.2.2.2.2 (by omega)
                  have hck := hc k hlt
                  obtain ⟨l0, lh⟩ := HLV.out k hlt
                  have HLH := hid lh
                  have hvc := o_v.has.2.1
                  have hvm := o_v.has.2.2.1
                  have HV := o_v.has.take (k := k) (by omega)
                  clear hc lh
                  generalize nth ls k = u at *
                  have hl0 : ¬ u < 0 := by omega
                  go_wp2_with fail
                  refine (wHas_any _ _ _ _ _ _ HV).mono ?_
                  rw [HLH.out]
                  rintro e _ ⟨rfl, rfl⟩
                  go_wp2_with fail
                  go_round
                  case rel => exact ⟨k + 1, by omega, by go_num⟩
                  case measure => simp [intOf]; omega
                · skip
                  obtain rfl : k = n_v := by omega
                  go_wp2_with fail
                  go_ret
                  exact ⟨rfl, hB⟩
            · skip
              obtain ⟨ls, f1, f2, f3⟩ := level_facts hw o_m.len
              have HLS := hid f1
              have HLL := hid f2
              have HL3 := hid f3
              clear f1 f2 f3
              have HTW := hid (turnWk_not (xs := ys) (a := wd) (fun hh => hs2 (by have := hh.2; rwa [o_m.len] at this)))
              clear hw hs2
              go_wp2_with fail
              refine (implTurnWk_any _ _ _ _ _ _ o_m.has).mono ?_
              rw [HTW.out]
              rintro e v9 ⟨a_t, n_t, c_t, rfl, o_t, st⟩
              replace o_m := o_m.below st (Nat.le_refl _)
              replace hB := hB.trans (st.mono hB.size)
              clear st
              go_wp2_with fail
              refine (specTurnWk_any _ _ _ _ _ _ o_m.has).mono ?_
              rw [HTW.out]
              rintro e v10 ⟨a_u, n_u, c_u, rfl, o_u, st⟩
              replace o_m := o_m.below st (Nat.le_refl _)
              replace o_t := o_t.below st (Nat.le_refl _)
              replace hB := hB.trans (st.mono hB.size)
              clear st
              go_wp2_with fail
              refine (implLevels_any _ _ _ _ _ _ o_m.has).mono ?_
              rw [HLS.out]
              rintro e v11 ⟨a_v, n_v, c_v, rfl, o_v, st⟩
              replace o_m := o_m.below st (Nat.le_refl _)
              replace o_t := o_t.below st (Nat.le_refl _)
              replace o_u := o_u.below st (Nat.le_refl _)
              replace hB := hB.trans (st.mono hB.size)
              clear st
              go_wp2_with fail
              refine (specLevels_any _ _ _ _ _ _ o_m.has).mono ?_
              rw [HLS.out]
              rintro e v12 ⟨a_x, n_x, c_x, rfl, o_x, st⟩
              replace o_m := o_m.below st (Nat.le_refl _)
              replace o_t := o_t.below st (Nat.le_refl _)
              replace o_u := o_u.below st (Nat.le_refl _)
              replace o_v := o_v.below st (Nat.le_refl _)
              replace hB := hB.trans (st.mono hB.size)
              clear st
              go_wp2_with fail
              refine (wSame_any _ _ _ _ _ _ _ _ _ o_t.has o_u.has).mono ?_
              rintro e v13 ⟨rfl, q⟩
              have st : Below v12.heap.size v12 v13 := q.below _
              replace o_m := o_m.below st (Nat.le_refl _)
              replace o_t := o_t.below st (Nat.le_refl _)
              replace o_u := o_u.below st (Nat.le_refl _)
              replace o_v := o_v.below st (Nat.le_refl _)
              replace o_x := o_x.below st (Nat.le_refl _)
              replace hB := hB.trans (st.mono hB.size)
              clear st
              clear q
              rw [same_self]
              clear o_u
              go_wp2_with fail
              refine (wSame_any _ _ _ _ _ _ _ _ _ o_v.has o_x.has).mono ?_
              rintro e v14 ⟨rfl, q⟩
              have st : Below v13.heap.size v13 v14 := q.below _
              replace o_m := o_m.below st (Nat.le_refl _)
              replace o_t := o_t.below st (Nat.le_refl _)
              replace o_v := o_v.below st (Nat.le_refl _)
              replace o_x := o_x.below st (Nat.le_refl _)
              replace hB := hB.trans (st.mono hB.size)
              clear st
              clear q
              rw [same_self]
              clear o_x
              obtain rfl : n_v = n_m := by rw [← o_v.len, HLL.out]
              have HLV := HL3
              clear o_t o_m
              go_wp2_with fail
              go_loop [201] (fun i => ∃ k : Nat, k ≤ n_v ∧ i = .int .i64 (k : Int)) (fun i => n_v - (intOf i).toNat)
              case atStart => exact ⟨0, by omega, rfl⟩
              case round =>
                obtain ⟨k, hk, rfl⟩ := hrel
                by_cases hlt : k < n_v
                · skip
                  obtain ⟨b0, off, rfl, hbb, hc⟩ := o_v.has.2.2.2.2 (by omega)
                  have hck := hc k hlt
                  obtain ⟨l0, lh⟩ := HLV.out k hlt
                  have HLH := hid lh
                  have hvc := o_v.has.2.1
                  have hvm := o_v.has.2.2.1
                  have HV := o_v.has.take (k := k) (by omega)
                  clear hc lh
                  generalize nth ls k = u at *
                  have hl0 : ¬ u < 0 := by omega
                  go_wp2_with fail
                  refine (wHas_any _ _ _ _ _ _ HV).mono ?_
                  rw [HLH.out]
                  rintro e _ ⟨rfl, rfl⟩
                  go_wp2_with fail
                  go_round
                  case rel => exact ⟨k + 1, by omega, by go_num⟩
                  case measure => simp [intOf]; omega
                · skip
                  obtain rfl : k = n_v := by omega
                  go_wp2_with fail
                  go_ret
                  exact ⟨rfl, hB⟩
          · skip
            have HTW := hid (turnWk_not (xs := ys) (a := wd) (fun hh => hw hh.1))
            have HLS := hid (levels_not hw)
            clear hw
            go_wp2_with fail
            refine (implTurnWk_any _ _ _ _ _ _ o_m.has).mono ?_
            rw [HTW.out]
            rintro e v9 ⟨a_t, n_t, c_t, rfl, o_t, st⟩
            replace o_m := o_m.below st (Nat.le_refl _)
            replace hB := hB.trans (st.mono hB.size)
            clear st
            go_wp2_with fail
            refine (specTurnWk_any _ _ _ _ _ _ o_m.has).mono ?_
            rw [HTW.out]
            rintro e v10 ⟨a_u, n_u, c_u, rfl, o_u, st⟩
            replace o_m := o_m.below st (Nat.le_refl _)
            replace o_t := o_t.below st (Nat.le_refl _)
            replace hB := hB.trans (st.mono hB.size)
            clear st
            go_wp2_with fail
            refine (implLevels_any _ _ _ _ _ _ o_m.has).mono ?_
            rw [HLS.out]
            rintro e v11 ⟨a_v, n_v, c_v, rfl, o_v, st⟩
            replace o_m := o_m.below st (Nat.le_refl _)
            replace o_t := o_t.below st (Nat.le_refl _)
            replace o_u := o_u.below st (Nat.le_refl _)
            replace hB := hB.trans (st.mono hB.size)
            clear st
            go_wp2_with fail
            refine (specLevels_any _ _ _ _ _ _ o_m.has).mono ?_
            rw [HLS.out]
            rintro e v12 ⟨a_x, n_x, c_x, rfl, o_x, st⟩
            replace o_m := o_m.below st (Nat.le_refl _)
            replace o_t := o_t.below st (Nat.le_refl _)
            replace o_u := o_u.below st (Nat.le_refl _)
            replace o_v := o_v.below st (Nat.le_refl _)
            replace hB := hB.trans (st.mono hB.size)
            clear st
            go_wp2_with fail
            refine (wSame_any _ _ _ _ _ _ _ _ _ o_t.has o_u.has).mono ?_
            rintro e v13 ⟨rfl, q⟩
            have st : Below v12.heap.size v12 v13 := q.below _
            replace o_m := o_m.below st (Nat.le_refl _)
            replace o_t := o_t.below st (Nat.le_refl _)
            replace o_u := o_u.below st (Nat.le_refl _)
            replace o_v := o_v.below st (Nat.le_refl _)
            replace o_x := o_x.below st (Nat.le_refl _)
            replace hB := hB.trans (st.mono hB.size)
            clear st
            clear q
            rw [same_self]
            clear o_u
            go_wp2_with fail
            refine (wSame_any _ _ _ _ _ _ _ _ _ o_v.has o_x.has).mono ?_
            rintro e v14 ⟨rfl, q⟩
            have st : Below v13.heap.size v13 v14 := q.below _
            replace o_m := o_m.below st (Nat.le_refl _)
            replace o_t := o_t.below st (Nat.le_refl _)
            replace o_v := o_v.below st (Nat.le_refl _)
            replace o_x := o_x.below st (Nat.le_refl _)
            replace hB := hB.trans (st.mono hB.size)
            clear st
            clear q
            rw [same_self]
            clear o_x
            obtain ⟨ls, hls⟩ : ∃ ls : List Int, ls = [] := ⟨_, rfl⟩
            have hnv : n_v = 0 := by rw [← o_v.len]; rfl
            have HLV : Hid (∀ k, k < n_v → 0 ≤ nth ls k ∧ hasB (ls.take k) (nth ls k) = false) := hid (fun k hk => by omega)
            rw [← hls] at o_v
            have hv10 : n_v ≤ 10 := by omega
            clear hls hnv
            clear o_t o_m
            go_wp2_with fail
            go_loop [201] (fun i => ∃ k : Nat, k ≤ n_v ∧ i = .int .i64 (k : Int)) (fun i => n_v - (intOf i).toNat)
            case atStart => exact ⟨0, by omega, rfl⟩
            case round =>
              obtain ⟨k, hk, rfl⟩ := hrel
              by_cases hlt : k < n_v
              · skip
                obtain ⟨b0, off, rfl, hbb, hc⟩ := o_v.has.2.2.2.2 (by omega)
                have hck := hc k hlt
                obtain ⟨l0, lh⟩ := HLV.out k hlt
                have HLH := hid lh
                have hvc := o_v.has.2.1
                have hvm := o_v.has.2.2.1
                have HV := o_v.has.take (k := k) (by omega)
                clear hc lh
                generalize nth ls k = u at *
                have hl0 : ¬ u < 0 := by omega
                go_wp2_with fail
                refine (wHas_any _ _ _ _ _ _ HV).mono ?_
                rw [HLH.out]
                rintro e _ ⟨rfl, rfl⟩
                go_wp2_with fail
                go_round
                case rel => exact ⟨k + 1, by omega, by go_num⟩
                case measure => simp [intOf]; omega
              · skip
                obtain rfl : k = n_v := by omega
                go_wp2_with fail
                go_ret
                exact ⟨rfl, hB⟩
        · skip
          have HO := hid ho
          clear ho
          go_wp2_with fail
          refine (implCntWk_any _ _ _).mono ?_
          rw [HO.out]
          rintro e v7 ⟨rfl, st⟩
          replace hB := hB.trans (st.mono hB.size)
          clear st
          go_wp2_with fail
          refine (drawTurnWk_any b m cap' _ (HM.out.grow hB (Nat.le_refl _))).mono ?_
          rintro e v8 ⟨a_m, n_m, c_m, ys, wd, rfl, o_m, hnm2, d0, d1, st⟩
          replace hB := hB.trans (st.mono hB.size)
          clear st
          by_cases hw : isWalkSl ys wd = true
          · skip
            by_cases hs2 : slB wd (n_m : Int) = true
            · skip
              obtain ⟨ls, f1, f2, f3⟩ := level_facts hw o_m.len
              have HLS := hid f1
              have HLL := hid f2
              have HL3 := hid f3
              clear f1 f2 f3
              obtain ⟨q, e, -⟩ := wk_parts hw o_m.len
              subst e
              obtain ⟨f1, f2, f3, f4, f5, f6⟩ := turn_twice hw o_m.len hs2
              have HTW := hid f1
              have HTL := hid f2
              have HTB := hid f3
              have HAR := hid f4
              have HC1 := hid f5
              have HC2 := hid f6
              clear f1 f2 f3 f4 f5 f6 hw hs2
              obtain ⟨ts, hts⟩ : ∃ ts, wkTurn ys q = ts := ⟨_, rfl⟩
              rw [hts] at HTW HTL HTB HAR HC2
              clear hts
              obtain ⟨ar, har⟩ : ∃ ar, areaSl ts q n_m = ar := ⟨_, rfl⟩
              rw [har] at HAR
              have HA2 := hid har
              have hea := neq_self_int ar
              clear har
              go_wp2_with fail
              refine (implTurnWk_any _ _ _ _ _ _ o_m.has).mono ?_
              rw [HTW.out]
              rintro e v9 ⟨a_t, n_t, c_t, rfl, o_t, st⟩
              replace o_m := o_m.below st (Nat.le_refl _)
              replace hB := hB.trans (st.mono hB.size)
              clear st
              go_wp2_with fail
              refine (specTurnWk_any _ _ _ _ _ _ o_m.has).mono ?_
              rw [HTW.out]
              rintro e v10 ⟨a_u, n_u, c_u, rfl, o_u, st⟩
              replace o_m := o_m.below st (Nat.le_refl _)
              replace o_t := o_t.below st (Nat.le_refl _)
              replace hB := hB.trans (st.mono hB.size)
              clear st
              go_wp2_with fail
              refine (implLevels_any _ _ _ _ _ _ o_m.has).mono ?_
              rw [HLS.out]
              rintro e v11 ⟨a_v, n_v, c_v, rfl, o_v, st⟩
              replace o_m := o_m.below st (Nat.le_refl _)
              replace o_t := o_t.below st (Nat.le_refl _)
              replace o_u := o_u.below st (Nat.le_refl _)
              replace hB := hB.trans (st.mono hB.size)
              clear st
              go_wp2_with fail
              refine (specLevels_any _ _ _ _ _ _ o_m.has).mono ?_
              rw [HLS.out]
              rintro e v12 ⟨a_x, n_x, c_x, rfl, o_x, st⟩
              replace o_m := o_m.below st (Nat.le_refl _)
              replace o_t := o_t.below st (Nat.le_refl _)
              replace o_u := o_u.below st (Nat.le_refl _)
              replace o_v := o_v.below st (Nat.le_refl _)
              replace hB := hB.trans (st.mono hB.size)
              clear st
              go_wp2_with fail
              refine (wSame_any _ _ _ _ _ _ _ _ _ o_t.has o_u.has).mono ?_
              rintro e v13 ⟨rfl, q⟩
              have st : Below v12.heap.size v12 v13 := q.below _
              replace o_m := o_m.below st (Nat.le_refl _)
              replace o_t := o_t.below st (Nat.le_refl _)
              replace o_u := o_u.below st (Nat.le_refl _)
              replace o_v := o_v.below st (Nat.le_refl _)
              replace o_x := o_x.below st (Nat.le_refl _)
              replace hB := hB.trans (st.mono hB.size)
              clear st
              clear q
              rw [same_self]
              clear o_u
              go_wp2_with fail
              refine (wSame_any _ _ _ _ _ _ _ _ _ o_v.has o_x.has).mono ?_
              rintro e v14 ⟨rfl, q⟩
              have st : Below v13.heap.size v13 v14 := q.below _
              replace o_m := o_m.below st (Nat.le_refl _)
              replace o_t := o_t.below st (Nat.le_refl _)
              replace o_v := o_v.below st (Nat.le_refl _)
              replace o_x := o_x.below st (Nat.le_refl _)
              replace hB := hB.trans (st.mono hB.size)
              clear st
              clear q
              rw [same_self]
              clear o_x
              obtain rfl : n_t = q := by rw [← o_t.len, HTL.out]
              go_wp2_with fail
              refine (implTurnWk_any _ _ _ _ _ _ o_t.has).mono ?_
              rw [HTB.out]
              rintro e v15 ⟨a_b, n_b, c_b, rfl, o_b, st⟩
              replace o_m := o_m.below st (Nat.le_refl _)
              replace o_t := o_t.below st (Nat.le_refl _)
              replace o_v := o_v.below st (Nat.le_refl _)
              replace hB := hB.trans (st.mono hB.size)
              clear st
              go_wp2_with fail
              refine (implArea_any _ _ _ _ _ _ o_m.has HC1.out).mono ?_
              rw [HAR.out]
              rintro e v16 ⟨rfl, st⟩
              replace o_m := o_m.below st (Nat.le_refl _)
              replace o_t := o_t.below st (Nat.le_refl _)
              replace o_v := o_v.below st (Nat.le_refl _)
              replace o_b := o_b.below st (Nat.le_refl _)
              replace hB := hB.trans (st.mono hB.size)
              clear st
              go_wp2_with fail
              refine (implArea_any _ _ _ _ _ _ o_t.has HC2.out).mono ?_
              rw [HA2.out]
              rintro e v17 ⟨rfl, st⟩
              replace o_m := o_m.below st (Nat.le_refl _)
              replace o_t := o_t.below st (Nat.le_refl _)
              replace o_v := o_v.below st (Nat.le_refl _)
              replace o_b := o_b.below st (Nat.le_refl _)
              replace hB := hB.trans (st.mono hB.size)
              clear st
              go_wp2_with fail
              refine (wSame_any _ _ _ _ _ _ _ _ _ o_b.has o_m.has).mono ?_
              rintro e v18 ⟨rfl, q⟩
              have st : Below v17.heap.size v17 v18 := q.below _
              replace o_m := o_m.below st (Nat.le_refl _)
              replace o_t := o_t.below st (Nat.le_refl _)
              replace o_v := o_v.below st (Nat.le_refl _)
              replace o_b := o_b.below st (Nat.le_refl _)
              replace hB := hB.trans (st.mono hB.size)
              clear st
              clear q
              rw [same_self]
              clear o_b
              obtain rfl : n_v = n_m := by rw [← o_v.len, HLL.out]
              have HLV := HL3
              clear o_t o_m
              go_wp2_with fail
              go_loop [201] (fun i => ∃ k : Nat, k ≤ n_v ∧ i = .int .i64 (k : Int)) (fun i => n_v - (intOf i).toNat)
              case atStart => exact ⟨0, by omega, rfl⟩
              case round =>
                obtain ⟨k, hk, rfl⟩ := hrel
                by_cases hlt : k < n_v
                · skip
                  obtain ⟨b0, off, rfl, hbb, hc⟩ := o_v.has.2.2.2.2 (by omega)
                  have hck := hc k hlt
                  obtain ⟨l0, lh⟩ := HLV.out k hlt
                  have HLH := hid lh
                  have hvc := o_v.has.2.1
                  have hvm := o_v.has.2.2.1
                  have HV := o_v.has.take (k := k) (by omega)
                  clear hc lh
                  generalize nth ls k = u at *
                  have hl0 : ¬ u < 0 := by omega
                  go_wp2_with fail
                  refine (wHas_any _ _ _ _ _ _ HV).mono ?_
                  rw [HLH.out]
                  rintro e _ ⟨rfl, rfl⟩
                  go_wp2_with fail
                  go_round
                  case rel => exact ⟨k + 1, by omega, by go_num⟩
                  case measure => simp [intOf]; omega
                · skip
                  obtain rfl : k = n_v := by omega
                  go_wp2_with fail
                  go_ret
                  exact ⟨rfl, hB⟩
            · skip
              obtain ⟨ls, f1, f2, f3⟩ := level_facts hw o_m.len
              have HLS := hid f1
              have HLL := hid f2
              have HL3 := hid f3
              clear f1 f2 f3
              have HTW := hid (turnWk_not (xs := ys) (a := wd) (fun hh => hs2 (by have := hh.2; rwa [o_m.len] at this)))
              clear hw hs2
              go_wp2_with fail
              refine (implTurnWk_any _ _ _ _ _ _ o_m.has).mono ?_
              rw [HTW.out]
              rintro e v9 ⟨a_t, n_t, c_t, rfl, o_t, st⟩
              replace o_m := o_m.below st (Nat.le_refl _)
              replace hB := hB.trans (st.mono hB.size)
              clear st
              go_wp2_with fail
              refine (specTurnWk_any _ _ _ _ _ _ o_m.has).mono ?_
              rw [HTW.out]
              rintro e v10 ⟨a_u, n_u, c_u, rfl, o_u, st⟩
              replace o_m := o_m.below st (Nat.le_refl _)
              replace o_t := o_t.below st (Nat.le_refl _)
              replace hB := hB.trans (st.mono hB.size)
              clear st
              go_wp2_with fail
              refine (implLevels_any _ _ _ _ _ _ o_m.has).mono ?_
              rw [HLS.out]
              rintro e v11 ⟨a_v, n_v, c_v, rfl, o_v, st⟩
              replace o_m := o_m.below st (Nat.le_refl _)
              replace o_t := o_t.below st (Nat.le_refl _)
              replace o_u := o_u.below st (Nat.le_refl _)
              replace hB := hB.trans (st.mono hB.size)
              clear st
              go_wp2_with fail
              refine (specLevels_any _ _ _ _ _ _ o_m.has).mono ?_
              rw [HLS.out]
              rintro e v12 ⟨a_x, n_x, c_x, rfl, o_x, st⟩
              replace o_m := o_m.below st (Nat.le_refl _)
              replace o_t := o_t.below st (Nat.le_refl _)
              replace o_u := o_u.below st (Nat.le_refl _)
              replace o_v := o_v.below st (Nat.le_refl _)
              replace hB := hB.trans (st.mono hB.size)
              clear st
              go_wp2_with fail
              refine (wSame_any _ _ _ _ _ _ _ _ _ o_t.has o_u.has).mono ?_
              rintro e v13 ⟨rfl, q⟩
              have st : Below v12.heap.size v12 v13 := q.below _
              replace o_m := o_m.below st (Nat.le_refl _)
              replace o_t := o_t.below st (Nat.le_refl _)
              replace o_u := o_u.below st (Nat.le_refl _)
              replace o_v := o_v.below st (Nat.le_refl _)
              replace o_x := o_x.below st (Nat.le_refl _)
              replace hB := hB.trans (st.mono hB.size)
              clear st
              clear q
              rw [same_self]
              clear o_u
              go_wp2_with fail
              refine (wSame_any _ _ _ _ _ _ _ _ _ o_v.has o_x.has).mono ?_
              rintro e v14 ⟨rfl, q⟩
              have st : Below v13.heap.size v13 v14 := q.below _
              replace o_m := o_m.below st (Nat.le_refl _)
              replace o_t := o_t.below st (Nat.le_refl _)
              replace o_v := o_v.below st (Nat.le_refl _)
              replace o_x := o_x.below st (Nat.le_refl _)
              replace hB := hB.trans (st.mono hB.size)
              clear st
              clear q
              rw [same_self]
              clear o_x
              obtain rfl : n_v = n_m := by rw [← o_v.len, HLL.out]
              have HLV := HL3
              clear o_t o_m
              go_wp2_with fail
              go_loop [201] (fun i => ∃ k : Nat, k ≤ n_v ∧ i = .int .i64 (k : Int)) (fun i => n_v - (intOf i).toNat)
              case atStart => exact ⟨0, by omega, rfl⟩
              case round =>
                obtain ⟨k, hk, rfl⟩ := hrel
                by_cases hlt : k < n_v
                · skip
                  obtain ⟨b0, off, rfl, hbb, hc⟩ := o_v.has.2.2.2.2 (by omega)
                  have hck := hc k hlt
                  obtain ⟨l0, lh⟩ := HLV.out k hlt
                  have HLH := hid lh
                  have hvc := o_v.has.2.1
                  have hvm := o_v.has.2.2.1
                  have HV := o_v.has.take (k := k) (by omega)
                  clear hc lh
                  generalize nth ls k = u at *
                  have hl0 : ¬ u < 0 := by omega
                  go_wp2_with fail
                  refine (wHas_any _ _ _ _ _ _ HV).mono ?_
                  rw [HLH.out]
                  rintro e _ ⟨rfl, rfl⟩
                  go_wp2_with fail
                  go_round
                  case rel => exact ⟨k + 1, by omega, by go_num⟩
                  case measure => simp [intOf]; omega
                · skip
                  obtain rfl : k = n_v := by omega
                  go_wp2_with fail
                  go_ret
                  exact ⟨rfl, hB⟩
          · skip
            have HTW := hid (turnWk_not (xs := ys) (a := wd) (fun hh => hw hh.1))
            have HLS := hid (levels_not hw)
            clear hw
            go_wp2_with fail
            refine (implTurnWk_any _ _ _ _ _ _ o_m.has).mono ?_
            rw [HTW.out]
            rintro e v9 ⟨a_t, n_t, c_t, rfl, o_t, st⟩
            replace o_m := o_m.below st (Nat.le_refl _)
            replace hB := hB.trans (st.mono hB.size)
            clear st
            go_wp2_with fail
            refine (specTurnWk_any _ _ _ _ _ _ o_m.has).mono ?_
            rw [HTW.out]
            rintro e v10 ⟨a_u, n_u, c_u, rfl, o_u, st⟩
            replace o_m := o_m.below st (Nat.le_refl _)
            replace o_t := o_t.below st (Nat.le_refl _)
            replace hB := hB.trans (st.mono hB.size)
            clear st
            go_wp2_with fail
            refine (implLevels_any _ _ _ _ _ _ o_m.has).mono ?_
            rw [HLS.out]
            rintro e v11 ⟨a_v, n_v, c_v, rfl, o_v, st⟩
            replace o_m := o_m.below st (Nat.le_refl _)
            replace o_t := o_t.below st (Nat.le_refl _)
            replace o_u := o_u.below st (Nat.le_refl _)
            replace hB := hB.trans (st.mono hB.size)
            clear st
            go_wp2_with fail
            refine (specLevels_any _ _ _ _ _ _ o_m.has).mono ?_
            rw [HLS.out]
            rintro e v12 ⟨a_x, n_x, c_x, rfl, o_x, st⟩
            replace o_m := o_m.below st (Nat.le_refl _)
            replace o_t := o_t.below st (Nat.le_refl _)
            replace o_u := o_u.below st (Nat.le_refl _)
            replace o_v := o_v.below st (Nat.le_refl _)
            replace hB := hB.trans (st.mono hB.size)
            clear st
            go_wp2_with fail
            refine (wSame_any _ _ _ _ _ _ _ _ _ o_t.has o_u.has).mono ?_
            rintro e v13 ⟨rfl, q⟩
            have st : Below v12.heap.size v12 v13 := q.below _
            replace o_m := o_m.below st (Nat.le_refl _)
            replace o_t := o_t.below st (Nat.le_refl _)
            replace o_u := o_u.below st (Nat.le_refl _)
            replace o_v := o_v.below st (Nat.le_refl _)
            replace o_x := o_x.below st (Nat.le_refl _)
            replace hB := hB.trans (st.mono hB.size)
            clear st
            clear q
            rw [same_self]
            clear o_u
            go_wp2_with fail
            refine (wSame_any _ _ _ _ _ _ _ _ _ o_v.has o_x.has).mono ?_
            rintro e v14 ⟨rfl, q⟩
            have st : Below v13.heap.size v13 v14 := q.below _
            replace o_m := o_m.below st (Nat.le_refl _)
            replace o_t := o_t.below st (Nat.le_refl _)
            replace o_v := o_v.below st (Nat.le_refl _)
            replace o_x := o_x.below st (Nat.le_refl _)
            replace hB := hB.trans (st.mono hB.size)
            clear st
            clear q
            rw [same_self]
            clear o_x
            obtain ⟨ls, hls⟩ : ∃ ls : List Int, ls = [] := ⟨_, rfl⟩
            have hnv : n_v = 0 := by rw [← o_v.len]; rfl
            have HLV : Hid (∀ k, k < n_v → 0 ≤ nth ls k ∧ hasB (ls.take k) (nth ls k) = false) := hid (fun k hk => by omega)
            rw [← hls] at o_v
            have hv10 : n_v ≤ 10 := by omega
            clear hls hnv
            clear o_t o_m
            go_wp2_with fail
            go_loop [201] (fun i => ∃ k : Nat, k ≤ n_v ∧ i = .int .i64 (k : Int)) (fun i => n_v - (intOf i).toNat)
            case atStart => exact ⟨0, by omega, rfl⟩
            case round =>
              obtain ⟨k, hk, rfl⟩ := hrel
              by_cases hlt : k < n_v
              · skip
                obtain ⟨b0, off, rfl, hbb, hc⟩ := o_v.has.2.2.2.2 (by omega)
                have hck := hc k hlt
                obtain ⟨l0, lh⟩ := HLV.out k hlt
                have HLH := hid lh
                have hvc := o_v.has.2.1
                have hvm := o_v.has.2.2.1
                have HV := o_v.has.take (k := k) (by omega)
                clear hc lh
                generalize nth ls k = u at *
                have hl0 : ¬ u < 0 := by omega
                go_wp2_with fail
                refine (wHas_any _ _ _ _ _ _ HV).mono ?_
                rw [HLH.out]
                rintro e _ ⟨rfl, rfl⟩
                go_wp2_with fail
                go_round
                case rel => exact ⟨k + 1, by omega, by go_num⟩
                case measure => simp [intOf]; omega
              · skip
                obtain rfl : k = n_v := by omega
                go_wp2_with fail
                go_ret
                exact ⟨rfl, hB⟩
    · skip
      obtain ⟨f1, f2⟩ := wk_no hN
      have HAL := hid f1
      have HCT := hid f2
      clear f1 f2 hN
      go_wp2_with fail
      refine (implAllWk_any _ _ _).mono ?_
      rw [HAL.out]
      rintro e v2 ⟨a_g, n_g, c_g, rs, rfl, R_g, hng, st⟩
      replace hB := hB.trans (st.mono hB.size)
      clear st
      go_wp2_with fail
      refine (specAllWk_any _ _ _).mono ?_
      rw [HAL.out]
      rintro e v3 ⟨a_s, n_s, c_s, ss, rfl, R_s, hns, st⟩
      replace R_g := R_g.below st (Nat.le_refl _)
      replace hB := hB.trans (st.mono hB.size)
      clear st
      have HRS : Hid (sameR rs ss = true) := hid (sameR_self' (hng.trans hns.symm))
      clear hng hns
      go_wp2_with fail
      refine (implCntWk_any _ _ _).mono ?_
      rw [HCT.out]
      rintro e v4 ⟨rfl, st⟩
      replace R_g := R_g.below st (Nat.le_refl _)
      replace R_s := R_s.below st (Nat.le_refl _)
      replace hB := hB.trans (st.mono hB.size)
      clear st
      go_wp2_with fail
      refine (specCntWk_any _ _ _).mono ?_
      rw [HCT.out]
      rintro e v5 ⟨rfl, st⟩
      replace R_g := R_g.below st (Nat.le_refl _)
      replace R_s := R_s.below st (Nat.le_refl _)
      replace hB := hB.trans (st.mono hB.size)
      clear st
      go_wp2_with fail
      refine (wRows_any _ _ _ _ _ _ _ _ _ R_g.has R_s.has).mono ?_
      rintro e v6 ⟨rfl, q⟩
      have st : Below v5.heap.size v5 v6 := q.below _
      replace R_g := R_g.below st (Nat.le_refl _)
      replace R_s := R_s.below st (Nat.le_refl _)
      replace hB := hB.trans (st.mono hB.size)
      clear st
      clear q
      rw [HRS.out]
      clear HRS R_s R_g
      go_wp2_with fail
      refine (drawTurnWk_any b m cap' _ (HM.out.grow hB (Nat.le_refl _))).mono ?_
      rintro e v7 ⟨a_m, n_m, c_m, ys, wd, rfl, o_m, hnm2, d0, d1, st⟩
      replace hB := hB.trans (st.mono hB.size)
      clear st
      by_cases hw : isWalkSl ys wd = true
      · skip
        by_cases hs2 : slB wd (n_m : Int) = true
        · skip
          obtain ⟨ls, f1, f2, f3⟩ := level_facts hw o_m.len
          have HLS := hid f1
          have HLL := hid f2
          have HL3 := hid f3
          clear f1 f2 f3
          obtain ⟨q, e, -⟩ := wk_parts hw o_m.len
          subst e
          obtain ⟨f1, f2, f3, f4, f5, f6⟩ := turn_twice hw o_m.len hs2
          have HTW := hid f1
          have HTL := hid f2
          have HTB := hid f3
          have HAR := hid f4
          have HC1 := hid f5
          have HC2 := hid f6
          clear f1 f2 f3 f4 f5 f6 hw hs2
          obtain ⟨ts, hts⟩ : ∃ ts, wkTurn ys q = ts := ⟨_, rfl⟩
          rw [hts] at HTW HTL HTB HAR HC2
          clear hts
          obtain ⟨ar, har⟩ : ∃ ar, areaSl ts q n_m = ar := ⟨_, rfl⟩
          rw [har] at HAR
          have HA2 := hid har
          have hea := neq_self_int ar
          clear har
          go_wp2_with fail
          refine (implTurnWk_any _ _ _ _ _ _ o_m.has).mono ?_
          rw [HTW.out]
          rintro e v8 ⟨a_t, n_t, c_t, rfl, o_t, st⟩
          replace o_m := o_m.below st (Nat.le_refl _)
          replace hB := hB.trans (st.mono hB.size)
          clear st
          go_wp2_with fail
          refine (specTurnWk_any _ _ _ _ _ _ o_m.has).mono ?_
          rw [HTW.out]
          rintro e v9 ⟨a_u, n_u, c_u, rfl, o_u, st⟩
          replace o_m := o_m.below st (Nat.le_refl _)
          replace o_t := o_t.below st (Nat.le_refl _)
          replace hB := hB.trans (st.mono hB.size)
          clear st
          go_wp2_with fail
          refine (implLevels_any _ _ _ _ _ _ o_m.has).mono ?_
          rw [HLS.out]
          rintro e v10 ⟨a_v, n_v, c_v, rfl, o_v, st⟩
          replace o_m := o_m.below st (Nat.le_refl _)
          replace o_t := o_t.below st (Nat.le_refl _)
          replace o_u := o_u.below st (Nat.le_refl _)
          replace hB := hB.trans (st.mono hB.size)
          clear st
          go_wp2_with fail
          refine (specLevels_any _ _ _ _ _ _ o_m.has).mono ?_
          rw [HLS.out]
          rintro e v11 ⟨a_x, n_x, c_x, rfl, o_x, st⟩
          replace o_m := o_m.below st (Nat.le_refl _)
          replace o_t := o_t.below st (Nat.le_refl _)
          replace o_u := o_u.below st (Nat.le_refl _)
          replace o_v := o_v.below st (Nat.le_refl _)
          replace hB := hB.trans (st.mono hB.size)
          clear st
          go_wp2_with fail
          refine (wSame_any _ _ _ _ _ _ _ _ _ o_t.has o_u.has).mono ?_
          rintro e v12 ⟨rfl, q⟩
          have st : Below v11.heap.size v11 v12 := q.below _
          replace o_m := o_m.below st (Nat.le_refl _)
          replace o_t := o_t.below st (Nat.le_refl _)
          replace o_u := o_u.below st (Nat.le_refl _)
          replace o_v := o_v.below st (Nat.le_refl _)
          replace o_x := o_x.below st (Nat.le_refl _)
          replace hB := hB.trans (st.mono hB.size)
          clear st
          clear q
          rw [same_self]
          clear o_u
          go_wp2_with fail
          refine (wSame_any _ _ _ _ _ _ _ _ _ o_v.has o_x.has).mono ?_
          rintro e v13 ⟨rfl, q⟩
          have st : Below v12.heap.size v12 v13 := q.below _
          replace o_m := o_m.below st (Nat.le_refl _)
          replace o_t := o_t.below st (Nat.le_refl _)
          replace o_v := o_v.below st (Nat.le_refl _)
          replace o_x := o_x.below st (Nat.le_refl _)
          replace hB := hB.trans (st.mono hB.size)
          clear st
          clear q
          rw [same_self]
          clear o_x
          obtain rfl : n_t = q := by rw [← o_t.len, HTL.out]
          go_wp2_with fail
          refine (implTurnWk_any _ _ _ _ _ _ o_t.has).mono ?_
          rw [HTB.out]
          rintro e v14 ⟨a_b, n_b, c_b, rfl, o_b, st⟩
          replace o_m := o_m.below st (Nat.le_refl _)
          replace o_t := o_t.below st (Nat.le_refl _)
          replace o_v := o_v.below st (Nat.le_refl _)
          replace hB := hB.trans (st.mono hB.size)
          clear st
          go_wp2_with fail
          refine (implArea_any _ _ _ _ _ _ o_m.has HC1.out).mono ?_
          rw [HAR.out]
          rintro e v15 ⟨rfl, st⟩
          replace o_m := o_m.below st (Nat.le_refl _)
          replace o_t := o_t.below st (Nat.le_refl _)
          replace o_v := o_v.below st (Nat.le_refl _)
          replace o_b := o_b.below st (Nat.le_refl _)
          replace hB := hB.trans (st.mono hB.size)
          clear st
          go_wp2_with fail
          refine (implArea_any _ _ _ _ _ _ o_t.has HC2.out).mono ?_
          rw [HA2.out]
          rintro e v16 ⟨rfl, st⟩
          replace o_m := o_m.below st (Nat.le_refl _)
          replace o_t := o_t.below st (Nat.le_refl _)
          replace o_v := o_v.below st (Nat.le_refl _)
          replace o_b := o_b.below st (Nat.le_refl _)
          replace hB := hB.trans (st.mono hB.size)
          clear st
          go_wp2_with fail
          refine (wSame_any _ _ _ _ _ _ _ _ _ o_b.has o_m.has).mono ?_
          rintro e v17 ⟨rfl, q⟩
          have st : Below v16.heap.size v16 v17 := q.below _
          replace o_m := o_m.below st (Nat.le_refl _)
          replace o_t := o_t.below st (Nat.le_refl _)
          replace o_v := o_v.below st (Nat.le_refl _)
          replace o_b := o_b.below st (Nat.le_refl _)
          replace hB := hB.trans (st.mono hB.size)
          clear st
          clear q
          rw [same_self]
          clear o_b
          obtain rfl : n_v = n_m := by rw [← o_v.len, HLL.out]
          have HLV := HL3
          clear o_t o_m
          go_wp2_with fail
          go_loop [201] (fun i => ∃ k : Nat, k ≤ n_v ∧ i = .int .i64 (k : Int)) (fun i => n_v - (intOf i).toNat)
          case atStart => exact ⟨0, by omega, rfl⟩
          case round =>
            obtain ⟨k, hk, rfl⟩ := hrel
            by_cases hlt : k < n_v
            · skip
              obtain ⟨b0, off, rfl, hbb, hc⟩ := o_v.has.2.2.2.2 (by omega)
              have hck := hc k hlt
              obtain ⟨l0, lh⟩ := HLV.out k hlt
              have HLH := hid lh
              have hvc := o_v.has.2.1
              have hvm := o_v.has.2.2.1
              have HV := o_v.has.take (k := k) (by omega)
              clear hc lh
              generalize nth ls k = u at *
              have hl0 : ¬ u < 0 := by omega
              go_wp2_with fail
              refine (wHas_any _ _ _ _ _ _ HV).mono ?_
              rw [HLH.out]
              rintro e _ ⟨rfl, rfl⟩
              go_wp2_with fail
              go_round
              case rel => exact ⟨k + 1, by omega, by go_num⟩
              case measure => simp [intOf]; omega
            · skip
              obtain rfl : k = n_v := by omega
              go_wp2_with fail
              go_ret
              exact ⟨rfl, hB⟩
        · skip
          obtain ⟨ls, f1, f2, f3⟩ := level_facts hw o_m.len
          have HLS := hid f1
          have HLL := hid f2
          have HL3 := hid f3
          clear f1 f2 f3
          have HTW := hid (turnWk_not (xs := ys) (a := wd) (fun hh => hs2 (by have := hh.2; rwa [o_m.len] at this)))
          clear hw hs2
          go_wp2_with fail
          refine (implTurnWk_any _ _ _ _ _ _ o_m.has).mono ?_
          rw [HTW.out]
          rintro e v8 ⟨a_t, n_t, c_t, rfl, o_t, st⟩
          replace o_m := o_m.below st (Nat.le_refl _)
          replace hB := hB.trans (st.mono hB.size)
          clear st
          go_wp2_with fail
          refine (specTurnWk_any _ _ _ _ _ _ o_m.has).mono ?_
          rw [HTW.out]
          rintro e v9 ⟨a_u, n_u, c_u, rfl, o_u, st⟩
          replace o_m := o_m.below st (Nat.le_refl _)
          replace o_t := o_t.below st (Nat.le_refl _)
          replace hB := hB.trans (st.mono hB.size)
          clear st
          go_wp2_with fail
          refine (implLevels_any _ _ _ _ _ _ o_m.has).mono ?_
          rw [HLS.out]
          rintro e v10 ⟨a_v, n_v, c_v, rfl, o_v, st⟩
          replace o_m := o_m.below st (Nat.le_refl _)
          replace o_t := o_t.below st (Nat.le_refl _)
          replace o_u := o_u.below st (Nat.le_refl _)
          replace hB := hB.trans (st.mono hB.size)
          clear st
          go_wp2_with fail
          refine (specLevels_any _ _ _ _ _ _ o_m.has).mono ?_
          rw [HLS.out]
          rintro e v11 ⟨a_x, n_x, c_x, rfl, o_x, st⟩
          replace o_m := o_m.below st (Nat.le_refl _)
          replace o_t := o_t.below st (Nat.le_refl _)
          replace o_u := o_u.below st (Nat.le_refl _)
          replace o_v := o_v.below st (Nat.le_refl _)
          replace hB := hB.trans (st.mono hB.size)
          clear st
          go_wp2_with fail
          refine (wSame_any _ _ _ _ _ _ _ _ _ o_t.has o_u.has).mono ?_
          rintro e v12 ⟨rfl, q⟩
          have st : Below v11.heap.size v11 v12 := q.below _
          replace o_m := o_m.below st (Nat.le_refl _)
          replace o_t := o_t.below st (Nat.le_refl _)
          replace o_u := o_u.below st (Nat.le_refl _)
          replace o_v := o_v.below st (Nat.le_refl _)
          replace o_x := o_x.below st (Nat.le_refl _)
          replace hB := hB.trans (st.mono hB.size)
          clear st
          clear q
          rw [same_self]
          clear o_u
          go_wp2_with fail
          refine (wSame_any _ _ _ _ _ _ _ _ _ o_v.has o_x.has).mono ?_
          rintro e v13 ⟨rfl, q⟩
          have st : Below v12.heap.size v12 v13 := q.below _
          replace o_m := o_m.below st (Nat.le_refl _)
          replace o_t := o_t.below st (Nat.le_refl _)
          replace o_v := o_v.below st (Nat.le_refl _)
          replace o_x := o_x.below st (Nat.le_refl _)
          replace hB := hB.trans (st.mono hB.size)
          clear st
          clear q
          rw [same_self]
          clear o_x
          obtain rfl : n_v = n_m := by rw [← o_v.len, HLL.out]
          have HLV := HL3
          clear o_t o_m
          go_wp2_with fail
          go_loop [201] (fun i => ∃ k : Nat, k ≤ n_v ∧ i = .int .i64 (k : Int)) (fun i => n_v - (intOf i).toNat)
          case atStart => exact ⟨0, by omega, rfl⟩
          case round =>
            obtain ⟨k, hk, rfl⟩ := hrel
            by_cases hlt : k < n_v
            · skip
              obtain ⟨b0, off, rfl, hbb, hc⟩ := o_v.has.2.2.2.2 (by omega)
              have hck := hc k hlt
              obtain ⟨l0, lh⟩ := HLV.out k hlt
              have HLH := hid lh
              have hvc := o_v.has.2.1
              have hvm := o_v.has.2.2.1
              have HV := o_v.has.take (k := k) (by omega)
              clear hc lh
              generalize nth ls k = u at *
              have hl0 : ¬ u < 0 := by omega
              go_wp2_with fail
              refine (wHas_any _ _ _ _ _ _ HV).mono ?_
              rw [HLH.out]
              rintro e _ ⟨rfl, rfl⟩
              go_wp2_with fail
              go_round
              case rel => exact ⟨k + 1, by omega, by go_num⟩
              case measure => simp [intOf]; omega
            · skip
              obtain rfl : k = n_v := by omega
              go_wp2_with fail
              go_ret
              exact ⟨rfl, hB⟩
      · skip
        have HTW := hid (turnWk_not (xs := ys) (a := wd) (fun hh => hw hh.1))
        have HLS := hid (levels_not hw)
        clear hw
        go_wp2_with fail
        refine (implTurnWk_any _ _ _ _ _ _ o_m.has).mono ?_
        rw [HTW.out]
        rintro e v8 ⟨a_t, n_t, c_t, rfl, o_t, st⟩
        replace o_m := o_m.below st (Nat.le_refl _)
        replace hB := hB.trans (st.mono hB.size)
        clear st
        go_wp2_with fail
        refine (specTurnWk_any _ _ _ _ _ _ o_m.has).mono ?_
        rw [HTW.out]
        rintro e v9 ⟨a_u, n_u, c_u, rfl, o_u, st⟩
        replace o_m := o_m.below st (Nat.le_refl _)
        replace o_t := o_t.below st (Nat.le_refl _)
        replace hB := hB.trans (st.mono hB.size)
        clear st
        go_wp2_with fail
        refine (implLevels_any _ _ _ _ _ _ o_m.has).mono ?_
        rw [HLS.out]
        rintro e v10 ⟨a_v, n_v, c_v, rfl, o_v, st⟩
        replace o_m := o_m.below st (Nat.le_refl _)
        replace o_t := o_t.below st (Nat.le_refl _)
        replace o_u := o_u.below st (Nat.le_refl _)
        replace hB := hB.trans (st.mono hB.size)
        clear st
        go_wp2_with fail
        refine (specLevels_any _ _ _ _ _ _ o_m.has).mono ?_
        rw [HLS.out]
        rintro e v11 ⟨a_x, n_x, c_x, rfl, o_x, st⟩
        replace o_m := o_m.below st (Nat.le_refl _)
        replace o_t := o_t.below st (Nat.le_refl _)
        replace o_u := o_u.below st (Nat.le_refl _)
        replace o_v := o_v.below st (Nat.le_refl _)
        replace hB := hB.trans (st.mono hB.size)
        clear st
        go_wp2_with fail
        refine (wSame_any _ _ _ _ _ _ _ _ _ o_t.has o_u.has).mono ?_
        rintro e v12 ⟨rfl, q⟩
        have st : Below v11.heap.size v11 v12 := q.below _
        replace o_m := o_m.below st (Nat.le_refl _)
        replace o_t := o_t.below st (Nat.le_refl _)
        replace o_u := o_u.below st (Nat.le_refl _)
        replace o_v := o_v.below st (Nat.le_refl _)
        replace o_x := o_x.below st (Nat.le_refl _)
        replace hB := hB.trans (st.mono hB.size)
        clear st
        clear q
        rw [same_self]
        clear o_u
        go_wp2_with fail
        refine (wSame_any _ _ _ _ _ _ _ _ _ o_v.has o_x.has).mono ?_
        rintro e v13 ⟨rfl, q⟩
        have st : Below v12.heap.size v12 v13 := q.below _
        replace o_m := o_m.below st (Nat.le_refl _)
        replace o_t := o_t.below st (Nat.le_refl _)
        replace o_v := o_v.below st (Nat.le_refl _)
        replace o_x := o_x.below st (Nat.le_refl _)
        replace hB := hB.trans (st.mono hB.size)
        clear st
        clear q
        rw [same_self]
        clear o_x
        obtain ⟨ls, hls⟩ : ∃ ls : List Int, ls = [] := ⟨_, rfl⟩
        have hnv : n_v = 0 := by rw [← o_v.len]; rfl
        have HLV : Hid (∀ k, k < n_v → 0 ≤ nth ls k ∧ hasB (ls.take k) (nth ls k) = false) := hid (fun k hk => by omega)
        rw [← hls] at o_v
        have hv10 : n_v ≤ 10 := by omega
        clear hls hnv
        clear o_t o_m
        go_wp2_with fail
        go_loop [201] (fun i => ∃ k : Nat, k ≤ n_v ∧ i = .int .i64 (k : Int)) (fun i => n_v - (intOf i).toNat)
        case atStart => exact ⟨0, by omega, rfl⟩
        case round =>
          obtain ⟨k, hk, rfl⟩ := hrel
          by_cases hlt : k < n_v
          · skip
            obtain ⟨b0, off, rfl, hbb, hc⟩ := o_v.has.2.2.2.2 (by omega)
            have hck := hc k hlt
            obtain ⟨l0, lh⟩ := HLV.out k hlt
            have HLH := hid lh
            have hvc := o_v.has.2.1
            have hvm := o_v.has.2.2.1
            have HV := o_v.has.take (k := k) (by omega)
            clear hc lh
            generalize nth ls k = u at *
            have hl0 : ¬ u < 0 := by omega
            go_wp2_with fail
            refine (wHas_any _ _ _ _ _ _ HV).mono ?_
            rw [HLH.out]
            rintro e _ ⟨rfl, rfl⟩
            go_wp2_with fail
            go_round
            case rel => exact ⟨k + 1, by omega, by go_num⟩
            case measure => simp [intOf]; omega
          · skip
            obtain rfl : k = n_v := by omega
            go_wp2_with fail
            go_ret
            exact ⟨rfl, hB⟩
end Go.Proofs.Ytfkejkkplafciad


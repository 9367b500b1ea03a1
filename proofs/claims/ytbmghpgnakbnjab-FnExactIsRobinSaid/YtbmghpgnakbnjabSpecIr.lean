/- IsRobin: the model's function. -/
import Derived.Test.YtbmghpgnakbnjabImplRt
import Derived.Test.YtbmghpgnakbnjabImplLt1
import Derived.Test.YtbmghpgnakbnjabIco
import Derived.Test.YtbmghpgnakbnjabReq
import Derived.Deep.RegionWith
import Derived.BigQuiet
namespace Go.Proofs.Ytbmghpgnakbnjab
open Go.RowKit

@[go_sem] theorem field_table (a : Option Addr) (n cap : Nat) (w : World) : (Instr.field 28 (.agg #[.slice a n cap]) 0).run Try.prog w = .ok (.slice a n cap) w := by
  simp [Instr.field, part, isAgg, asAgg, run_underlying Try.underlying22, run_underlying Try.underlying28]
def isRobOf (cs : List Int) : Bool × Bool := if tblB cs then (same (robL cs.length (keysL cs)) cs, true) else (false, false)
theorem isRobOf_yes {cs : List Int} (h : tblB cs = true) : isRobOf cs = (same (robL cs.length (keysL cs)) cs, true) := if_pos h
theorem isRobOf_no {cs : List Int} (h : tblB cs = false) : isRobOf cs = (false, false) := if_neg (by simp [h])
theorem at_take_nodup {xs : List Int} (h : xs.Nodup) {i : Nat} (hi : i < xs.length) : nth xs i ∉ xs.take i := by
  have hs : (xs.take (i + 1)).Nodup := (List.take_sublist _ _).nodup h
  rw [take_succ_nth hi, List.nodup_append] at hs
  exact fun hm => hs.2.2 _ hm _ (by simp) rfl
theorem Tb.keys_ok {cs : List Int} (h : Tb cs) : keysB cs.length (keysL cs) = true := by
  have hl : (keysL cs).length = usedN cs := by
    unfold keysL
    rw [length_insSort, ← length_usedL]
    exact length_collE _ _ _ _
  refine keysB_iff.2 ⟨⟨by have := h.lo; omega, by have := h.hi; omega⟩, by have := h.usedN_lt; omega, ?_, ?_⟩
  · intro x hx
    obtain ⟨h1, h2⟩ := mem_keys.1 hx
    obtain ⟨c, hc, rfl⟩ := mem_nth h1
    have := h.bd c hc
    omega
  · intro i hi
    exact at_take_nodup ((insSort_perm _).nodup_iff.2 h.taken_nodup) hi
set_option maxHeartbeats 400000 in
theorem l1Same_any (a b : Option Addr) (n m cap cap' : Nat) (xs ys : List Int) (w : World) (h : Has w a n cap xs) (h' : Has w b m cap' ys) :
    Calls Try.prog 57 #[.slice a n cap, .slice b m cap'] w fun e w' => e = .returned (.bool (same xs ys)) ∧ Quiet w w' := by
  obtain ⟨h0, h1, h2, h3, h4⟩ := h
  obtain ⟨k0, k1, k2, k3, k4⟩ := h'
  by_cases hnm : n = m
  · have hb : ((n : Int) != (m : Int)) = false := by simp [hnm]
    subst hnm
    go_enter Try.func57, Try.ntmps57
    go_wp2_with fail
    go_loopw [13] (fun i wr => ∃ k : Nat, k ≤ n ∧ i = .int .i64 k ∧ FromTo xs ys k ∧ Quiet w wr) (fun i _ => n - (intOf i).toNat)
    case atStart => exact ⟨0, Nat.zero_le _, rfl, fun i hi => by omega, ⟨0, rfl⟩⟩
    case round =>
      obtain ⟨k, hk, rfl, hft, q, hq⟩ := hrel
      subst hq
      by_cases hlt : k < n
      · obtain ⟨b1, off1, rfl, hb1, hc1⟩ := h4 (by omega)
        obtain ⟨b2, off2, rfl, hb2, hc2⟩ := k4 (by omega)
        have hck := hc1 k hlt
        have hdk := hc2 k hlt
        have hkk : (k : Int) < (n : Int) := by omega
        have hkz : (0 : Int) ≤ (k : Int) := by omega
        clear hc1 hc2 h4 k4
        by_cases he : nth xs k = nth ys k
        · have hbe : (nth xs k != nth ys k) = false := by simp [he]
          have HE := hid he
          clear he
          go_wp2_with fail
          go_quiet (fail)
          go_wp2_with fail
          go_roundw
          case rel => exact ⟨k + 1, by omega, by go_num, fun i hi => by rcases Nat.lt_succ_iff_lt_or_eq.1 hi with h | rfl; exact hft i h; exact HE.out.symm, ⟨_, rfl⟩⟩
          case measure => simp [intOf]; omega
        · have hbe : (nth xs k != nth ys k) = true := by simp [he]
          have HE := hid he
          clear he
          go_wp2_with fail
          go_quiet (fail)
          go_wp2_with fail
          go_ret
          exact ⟨ret_bool (same_no HE.out).symm, (Quiet.more ⟨_, rfl⟩ _)⟩
      · obtain rfl : k = n := by omega
        go_wp2_with fail
        go_ret
        exact ⟨ret_bool (same_yes (by omega) (by rw [h0]; exact hft)).symm, ⟨_, rfl⟩⟩
  · have hb : ((n : Int) != (m : Int)) = true := by simp; omega
    go_enter Try.func57, Try.ntmps57
    go_wp2_with fail
    go_ret
    exact ⟨ret_bool (show false = same xs ys from by unfold same; symm; rw [decide_eq_false_iff_not]; rintro rfl; omega), ⟨0, rfl⟩⟩


set_option maxRecDepth 100000 in
set_option maxHeartbeats 4000000 in
theorem specIsRobin_any (a : Option Addr) (n cap : Nat) (cs : List Int) (w : World) (h : Has w a n cap cs) :
    Calls Try.prog 32 #[.agg #[.slice a n cap]] w (PostBools w (isRobOf cs)) := by
  obtain rfl := h.len
  have hle := h.le
  obtain ⟨W, hW, C, hbW, hsW⟩ := boxed w (.slice a cs.length cap) 28
  have hH := h.below hbW (Nat.le_refl _)
  obtain ⟨y1, y2⟩ := id C
  by_cases hg : tblB cs = true
  · have HG := hid hg
    have HR := hid (isRobOf_yes hg)
    have ht := tb_iff.1 hg
    have h12 := ht.hi
    have hlo := ht.lo
    have HK := hid ht.keys_ok
    clear hg
    go_enter Try.func32, Try.ntmps32
    go_wp2_with fail
    refine (prGood_any _ _ _ _ _ hH).mono ?_
    rintro e w1 ⟨rfl, st⟩
    rw [HG.out]
    have C1 := C.below st (by omega)
    have hH1 := hH.below st (Nat.le_refl _)
    have hb1 := hbW.trans (st.mono hbW.size)
    have HTS : Hid (TS w1 w.heap.size a cs.length cap cs w1) := hid ⟨C1, hH1, Below.refl _ _⟩
    clear y1 y2 hH C st hW
    go_upto_region 3 with fail
    have hTd := HTS.out.drew
    obtain ⟨y1, y2⟩ := id hTd.cell
    first | (go_region_with (first | (go_at_call 58; refine (prSorted_any _ _ _ _ _ hTd.has ht).mono ?_; rintro e w2 ⟨a2, m2, cap2, rfl, own2, hb2'⟩; have hT1 := hTd.step hb2'; obtain ⟨z1, z2⟩ := id hT1.cell) | (go_at_call 53; refine (prRobin_any _ _ _ _ _ _ own2.has HK.out).mono ?_; rintro e w3 ⟨a3, cap3, rfl, own3, hb3'⟩; have hT2 := hT1.step hb3'; obtain ⟨t1, t2⟩ := id hT2.cell) | (go_at_call 57; refine (l1Same_any _ _ _ _ _ _ _ _ _ own3.has hT2.has).mono ?_; rintro e w4 ⟨rfl, hq⟩))) | fail
    all_goals
      go_wp2_with fail
      go_ret2
      exact postBools HR.out ((hb1.trans (hT2.st.mono hb1.size)).trans (hq.below _))
  · have HG := hid (Bool.eq_false_iff.2 hg)
    have HR := hid (isRobOf_no (Bool.eq_false_iff.2 hg))
    clear hg
    go_enter Try.func32, Try.ntmps32
    go_wp2_with fail
    refine (prGood_any _ _ _ _ _ hH).mono ?_
    rintro e w1 ⟨rfl, st⟩
    rw [HG.out]
    go_wp2_with fail
    go_ret2
    exact postBools HR.out (hbW.trans (st.mono hbW.size))
end Go.Proofs.Ytbmghpgnakbnjab

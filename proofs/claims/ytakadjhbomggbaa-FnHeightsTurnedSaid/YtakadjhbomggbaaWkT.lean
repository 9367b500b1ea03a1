/- Chapter 4: heights seen from the other end, by their contracts. -/
import Derived.Test.YtakadjhbomggbaaWkQ
import Derived.Test.YtakadjhbomggbaaMathHu
namespace Go.Proofs.Ytakadjhbomggbaa
open Go.RowKit

/-! ### Slices of bools of the call's own -/
def OwnB (w : World) (B : Nat) (a : Option Addr) (n cap : Nat) (bs : List Bool) : Prop := w.ownsRow B 4 1 (.slice a n cap) n (bs.map Value.bool) ∧ bs.length = n ∧ n ≤ 1000
theorem OwnB.nil (w : World) (B : Nat) : OwnB w B none 0 0 [] := ⟨⟨by simp, .inl ⟨rfl, rfl⟩⟩, by simp⟩
theorem OwnB.lt {w : World} {B : Nat} {a : Option Addr} {n cap : Nat} {bs : List Bool} (h : OwnB w B a n cap bs) : BlkLt a w.heap.size := fun p hp => by
  have := (h.1.lt p.block (by subst hp; rfl)).2
  exact this
theorem OwnB.below {w w' : World} {B K : Nat} {a : Option Addr} {n cap : Nat} {bs : List Bool} (h : OwnB w B a n cap bs) (hb : Below K w w') (hB : BlkLt a K) : OwnB w' B a n cap bs := by
  obtain ⟨⟨h1, h2⟩, h3⟩ := h
  refine ⟨⟨h1, ?_⟩, h3⟩
  rcases h2 with h2 | ⟨g, cap', cur, hv, hg, hh, r⟩
  · exact .inl h2
  · refine .inr ⟨g, cap', cur, hv, hg, ?_, r⟩
    simp at hv
    have := hB _ hv.1
    rw [hb.block g (by simpa using this)]
    exact hh
theorem OwnB.cell {w : World} {B : Nat} {a : Option Addr} {n cap : Nat} {bs : List Bool} (h : OwnB w B a n cap bs) (hx : 0 < n) : ∃ g, a = some ⟨g, 0, none⟩ ∧ ∀ i, i < n → w.cell? ⟨g, i, none⟩ = some (.bool (bs.getD i false)) := by
  have h0 := h
  obtain ⟨⟨h1, h2⟩, h3⟩ := h
  rcases h2 with ⟨hv, hn⟩ | ⟨g, cap', cur, hv, hg, hh, hnc, hcm, hcs, htake⟩
  · omega
  · simp at hv
    obtain ⟨rfl, rfl⟩ := hv
    refine ⟨g, rfl, fun i hi => ?_⟩
    rw [cell_of_row w g i cur 4 (0, 0) hh]
    have : (cur.toList.take (n * 1))[i]? = (bs.map Value.bool)[i]? := by rw [htake]
    rw [List.getElem?_take, if_pos (by omega)] at this
    simp at this
    have hib : i < bs.length := by omega
    rw [this, List.getElem?_eq_getElem hib]
    simp [hib]
theorem OwnB.capOk {w : World} {B : Nat} {a : Option Addr} {n cap : Nat} {bs : List Bool} (h : OwnB w B a n cap bs) : n ≤ cap := by
  rcases h.1.2 with ⟨hv, hn⟩ | ⟨g, cap', cur, hv, _, _, hnc, _⟩
  · simp at hv; omega
  · simp at hv; omega
theorem Try.infoBoolW : (Try.prog.info? 4).map (fun i => (i.zero, i.size, i.bytes)) = some (some (.bool false), 1, 1) := by kernel_rfl
theorem ownB_of_row {w : World} {B : Nat} {v : Value} {n : Nat} {us : List Value} {bs : List Bool} (h : w.ownsRow B 4 1 v n us) (hn : n = bs.length) (hu : us = bs.map Value.bool) (hl : bs.length ≤ 1000) : ∃ a cap, v = .slice a n cap ∧ OwnB w B a n cap bs := by
  subst hu
  have h' := h
  rcases h.2 with ⟨hv, h0⟩ | ⟨g, cap, cur, hv, _⟩
  · refine ⟨none, 0, by rw [hv, h0], ?_⟩
    rw [hv] at h
    exact ⟨by rw [h0] at h ⊢; exact h, hn.symm, by omega⟩
  · exact ⟨_, cap, hv, by rw [hv] at h'; exact h', hn.symm, by omega⟩
theorem one_cellB (w : World) (y : Bool) : ∀ j u, [Value.bool y][j]? = some u → (w.alloc (.cells #[.bool y] 4)).cell? ((⟨w.heap.size, 0, none⟩ : Addr).add j) = some u := by
  intro j u hj
  match j, hj with
  | 0, hj =>
    simp at hj
    subst hj
    simp [Addr.add]
theorem wpList_append_bool {ops : Array Oper} {rest : List Oper} {o : Oper} {a : Act} {Q : Exit → Act → World → Prop} (w : World) (hgd : o.guard = none) (s x : Operand)
    (ho : o.op = .call { callee := .builtin .append, args := #[s, x], argTypes := #[76, 76] })
    (B : Nat) (a0 : Option Addr) (n cap : Nat) (bs : List Bool) (y : Bool) (hs : a.eval s = .slice a0 n cap) (hx : a.eval x = .slice (some ⟨w.heap.size, 0, none⟩) 1 1)
    (hown : OwnB w B a0 n cap bs) (hl : n + 1 ≤ 1000) (hB : B ≤ w.heap.size)
    (h : ∀ a' cap' w', OwnB w' B a' (n + 1) cap' (bs ++ [y]) → Below B w w' → wpList Try.prog ops Q rest (a.put o.dst (.slice a' (n + 1) cap')) w') :
    wpList Try.prog ops Q (o :: rest) a (w.alloc (.cells #[.bool y] 4)) := by
  obtain ⟨i0, hi, hz0, hz1, hz2⟩ := info_parts Try.infoBoolW
  have hlen := hown.2.1
  refine wpList_append_own (P := Try.prog) _ hgd s x 76 ho B 4 i0 (.bool false) 1 1 Try.underlying76 hi hz0 hz1 hz2 rfl (by decide) _ n (bs.map Value.bool) hs (hown.1.alloc _) ⟨w.heap.size, 0, none⟩ 1 1 [.bool y] hx rfl (one_cellB w y) (by intro u hu; simp at hu; subst hu; rfl) (by unfold maxLen; omega) (by omega) (by simp; omega) ?_
  intro v' w' hown' hgrow _
  have hb : Below B w w' := ((Below.refl B w).alloc hB _).grown hgrow (by simp; omega) (fun k hk => (hown.1.lt k hk).1)
  obtain ⟨a', cap', rfl, ho'⟩ := ownB_of_row (bs := bs ++ [y]) hown' (by simp [hlen]) (by simp) (by simp; omega)
  exact h _ _ _ ho' hb

/-! ### The path -/
theorem path_len (hs : List Int) : ∀ k, (pathTo hs k).1.length = k + (pathTo hs k).2
  | 0 => rfl
  | k + 1 => by
    simp only [pathTo, List.length_append, List.length_replicate, List.length_singleton, path_len hs k]
    omega
theorem path_right {hs : List Int} {n : Nat} (hb : ∀ i, i < n → 0 ≤ nth hs i ∧ nth hs i ≤ (i : Int)) : ∀ k, k ≤ n → (pathTo hs k).2 ≤ k
  | 0, _ => Nat.le_refl _
  | k + 1, hk => by
    have h1 := path_right hb k (by omega)
    have h2 := hb k (by omega)
    simp only [pathTo]
    omega
theorem path_step {hs : List Int} {k c s : Nat} (hsv : ((k : Int) - nth hs k).toNat = s) (hc : c = s - (pathTo hs k).2) : (pathTo hs (k + 1)).1 = (pathTo hs k).1 ++ List.replicate c false ++ [true] ∧ (pathTo hs (k + 1)).2 = (pathTo hs k).2 + c := by
  simp only [pathTo, hsv, ← hc]
  exact ⟨trivial, by omega⟩
theorem rep_succ (l : List Bool) (c : Nat) : l ++ List.replicate (c + 1) false = l ++ List.replicate c false ++ [false] := by rw [List.replicate_succ', List.append_assoc]

set_option maxHeartbeats 2000000 in
theorem waPath_any (a : Option Addr) (n cap : Nat) (hs : List Int) (w : World) (h : Has w a n cap hs) (h8 : n ≤ 8) (hbd : ∀ i, i < n → 0 ≤ nth hs i ∧ nth hs i ≤ (i : Int)) :
    Calls Try.prog 75 #[.slice a n cap] w fun e w' => ∃ a' q cap', e = .returned (.slice a' q cap') ∧ OwnB w' w.heap.size a' q cap' (pathL hs) ∧ Below w.heap.size w w' := by
  have HL := hid h.len
  have HBD := hid hbd
  have HLEN := hid (path_len hs)
  have HRT := hid (path_right hbd)
  clear hbd
  go_enter Try.func75, Try.ntmps75
  go_wp2_with fail
  go_loopw [3, 4, 9] (fun p rv i wr => ∃ (k r q : Nat) (a' : Option Addr) (cq : Nat), k ≤ n ∧ i = .int .i64 k ∧ rv = .int .i64 r ∧ p = .slice a' q cq ∧ Hid ((pathTo hs k).2 = r) ∧ OwnB wr w.heap.size a' q cq (pathTo hs k).1 ∧ Hid (q = k + r) ∧ r ≤ k ∧ Below w.heap.size w wr) (fun _ _ i _ => n - (intOf i).toNat)
  case atStart => exact ⟨0, 0, 0, none, 0, Nat.zero_le _, rfl, rfl, rfl, hid rfl, OwnB.nil _ _, hid rfl, Nat.le_refl _, Below.refl _ _⟩
  case round =>
    obtain ⟨wo, rfl⟩ : ∃ wo : World, wo = wr := ⟨_, rfl⟩
    obtain ⟨k, r, q, a', cq, hk, rfl, rfl, rfl, HR, hown, HQ, hrk, hb⟩ := hrel
    by_cases hlt : k < n
    · obtain ⟨b1, off1, rfl, hbb1, hc1⟩ := h.2.2.2.2 (by omega)
      have hck : wo.cell? ⟨b1, off1 + k, none⟩ = some (.int .i64 (nth hs k)) := by rw [hb.cell (p := ⟨b1, off1 + k, none⟩) hbb1]; exact hc1 k hlt
      have hbk := HBD.out k hlt
      obtain ⟨s, hsv⟩ : ∃ s : Nat, (k : Int) - nth hs k = (s : Int) := ⟨((k : Int) - nth hs k).toNat, by omega⟩
      have HSV : Hid (((k : Int) - nth hs k).toNat = s) := hid (by omega)
      have HST : Hid ((k : Int) - nth hs k = (s : Int)) := hid hsv
      have hsk : s ≤ k := by omega
      obtain ⟨hv, hhv⟩ : ∃ z, nth hs k = z := ⟨_, rfl⟩
      rw [hhv] at hck HST HSV hsv hbk
      have HHV := hid hhv
      clear hc1 hhv
      go_wp2_with fail
      go_loopw [3, 4] (fun p rv wr => ∃ (c q : Nat) (a' : Option Addr) (cq : Nat), rv = .int .i64 ((r + c : Nat) : Int) ∧ p = .slice a' q cq ∧ (c = 0 ∨ r + c ≤ s) ∧ Hid (q = k + r + c) ∧ OwnB wr w.heap.size a' q cq ((pathTo hs k).1 ++ List.replicate c false) ∧ Below w.heap.size w wr) (fun _ rv _ => s - (intOf rv).toNat)
      case atStart => exact ⟨0, q, a', cq, by go_num, rfl, .inl rfl, hid (by have := HQ.out; omega), by simpa using hown, hb⟩
      case round =>
        obtain ⟨c, q1, a1, cq1, rfl, rfl, hcs, HQ1, hown1, hb1⟩ := hrel
        have hrc : r + c ≤ 8 := by omega
        have hqb : q1 ≤ 100 := by have := HQ1.out; omega
        by_cases hlc : r + c < s
        · have HC : Hid ((pathTo hs k).1 ++ List.replicate (c + 1) false = (pathTo hs k).1 ++ List.replicate c false ++ [false]) := hid (rep_succ _ _)
          have hz : ((r + c : Nat) : Int) < (k : Int) - hv := by omega
          have hz2 : (r : Int) + (c : Int) < (k : Int) - hv := by omega
          go_wp2_with (at_builtin; refine wpList_append_bool _ rfl _ _ rfl w.heap.size _ _ _ _ _ rfl rfl hown1 (by omega) hb1.size ?_; intro a3 c3 w3 hown3 hb3)
          go_roundw
          case rel => exact ⟨c + 1, q1 + 1, a3, c3, by go_num, rfl, .inr (by omega), hid (by have := HQ1.out; omega), by rw [HC.out]; exact hown3, hb1.trans hb3⟩
          case measure => simp [intOf]; omega
        · have HCE : Hid (c = s - r) := hid (by omega)
          have hz : ¬ ((r + c : Nat) : Int) < (k : Int) - hv := by omega
          have hz2 : ¬ (r : Int) + (c : Int) < (k : Int) - hv := by omega
          have HP := hid (path_step (hs := hs) (k := k) (c := c) (s := s) (by rw [HHV.out]; exact HSV.out) (by rw [HR.out]; exact HCE.out))
          go_wp2_with (at_builtin; refine wpList_append_bool _ rfl _ _ rfl w.heap.size _ _ _ _ _ rfl rfl hown1 (by omega) hb1.size ?_; intro a3 c3 w3 hown3 hb3)
          go_roundw
          case rel => exact ⟨k + 1, r + c, q1 + 1, a3, c3, by omega, by go_num, by go_num, rfl, hid (by rw [HP.out.2, HR.out]), by rw [HP.out.1]; exact hown3, hid (by have := HQ1.out; omega), by omega, hb1.trans hb3⟩
          case measure => simp [intOf]; omega
    · obtain rfl : k = n := by omega
      have HPL : Hid (pathL hs = (pathTo hs k).1 ++ List.replicate (k - r) false) := hid (by unfold pathL; rw [HL.out, HR.out])
      go_wp2_with fail
      go_loopw [3, 4] (fun p rv wr => ∃ (c q : Nat) (a' : Option Addr) (cq : Nat), rv = .int .i64 ((r + c : Nat) : Int) ∧ p = .slice a' q cq ∧ r + c ≤ k ∧ Hid (q = k + r + c) ∧ OwnB wr w.heap.size a' q cq ((pathTo hs k).1 ++ List.replicate c false) ∧ Below w.heap.size w wr) (fun _ rv _ => k - (intOf rv).toNat)
      case atStart => exact ⟨0, q, a', cq, by go_num, rfl, by omega, hid (by have := HQ.out; omega), by simpa using hown, hb⟩
      case round =>
        obtain ⟨c, q1, a1, cq1, rfl, rfl, hcs, HQ1, hown1, hb1⟩ := hrel
        have hqb : q1 ≤ 100 := by have := HQ1.out; omega
        by_cases hlc : r + c < k
        · have HC : Hid ((pathTo hs k).1 ++ List.replicate (c + 1) false = (pathTo hs k).1 ++ List.replicate c false ++ [false]) := hid (rep_succ _ _)
          have hz2 : (r : Int) + (c : Int) < (k : Int) := by omega
          go_wp2_with (at_builtin; refine wpList_append_bool _ rfl _ _ rfl w.heap.size _ _ _ _ _ rfl rfl hown1 (by omega) hb1.size ?_; intro a3 c3 w3 hown3 hb3)
          go_roundw
          case rel => exact ⟨c + 1, q1 + 1, a3, c3, by go_num, rfl, by omega, hid (by have := HQ1.out; omega), by rw [HC.out]; exact hown3, hb1.trans hb3⟩
          case measure => simp [intOf]; omega
        · have HCE : Hid (c = k - r) := hid (by omega)
          have hz2 : ¬ (r : Int) + (c : Int) < (k : Int) := by omega
          have HE : Hid ((pathTo hs k).1 ++ List.replicate c false = pathL hs) := hid (by rw [HPL.out, HCE.out])
          go_wp2_with fail
          go_ret
          exact ⟨a1, q1, cq1, rfl, by rw [← HE.out]; exact hown1, hb1⟩

set_option maxHeartbeats 2000000 in
theorem specTurnH_any (a : Option Addr) (n cap : Nat) (hs : List Int) (w : World) (h : Has w a n cap hs) :
    Calls Try.prog 35 #[.slice a n cap] w (PostInts w (turnOf' hs)) := by
  have HL := hid h.len
  have hle := h.le
  by_cases hg : hgtB hs = true
  · have HR : Hid (turnOf' hs = (turnL hs, true)) := hid (by simp only [turnOf']; rw [if_pos hg])
    have HG := hid hg
    obtain ⟨h8, hbd⟩ := hgt_of hg h.len
    have HBD := hid hbd
    clear hg hbd
    go_enter Try.func35, Try.ntmps35
    go_wp2_with fail
    refine (waHeights_any _ _ _ _ _ h).mono ?_
    rintro e w' ⟨rfl, rfl⟩
    rw [HG.out]
    have HTS : Hid (turnS hs = turnL hs ∧ (pathL hs).length = 2 * hs.length) := hid (turnS_eq HG.out)
    go_wp2_with fail
    refine (waPath_any _ _ _ _ _ h h8 HBD.out).mono ?_
    rintro e w1 ⟨a1, q1, c1, rfl, own1, hb1⟩
    have hql : q1 = 2 * n := by rw [← own1.2.1, HTS.out.2, HL.out]
    have hq16 : q1 ≤ 16 := by omega
    have lt1 := own1.lt
    have hcap1 := own1.capOk
    have hs1 := hb1.size
    have HTURN : Hid (turnF (pathL hs) q1 [] 0 = turnL hs) := hid (by rw [← HTS.out.1, hql]; unfold turnS; rw [HTS.out.2, HL.out])
    go_wp2_with fail
    go_loopw [5, 6, 7] (fun o rv kv wr => ∃ (j r q : Nat) (a' : Option Addr) (cq : Nat) (out : List Int), j ≤ q1 ∧ kv = .int .i64 ((j : Int) - 1) ∧ rv = .int .i64 r ∧ o = .slice a' q cq ∧ r ≤ q1 - j ∧ q ≤ q1 - j ∧ Hid (turnF (pathL hs) j out r = turnL hs) ∧ Own wr w1.heap.size a' q cq out ∧ OwnB wr w.heap.size a1 q1 c1 (pathL hs) ∧ Below w.heap.size w wr ∧ w1.heap.size ≤ wr.heap.size) (fun _ _ kv _ => (intOf kv + 1).toNat)
    case atStart => exact ⟨q1, 0, 0, none, 0, [], Nat.le_refl _, by go_num, rfl, rfl, by omega, by omega, HTURN, Own.nil _ _, own1, hb1, Nat.le_refl _⟩
    case round =>
      obtain ⟨j, r, q, a', cq, out, hj, rfl, rfl, rfl, hr, hq, HT, hown, hpath, hb, hsz⟩ := hrel
      clear own1 hb1
      by_cases hj0 : j = 0
      · have HF : Hid (out = turnL hs) := hid (by have := HT.out; rw [hj0] at this; exact this)
        have hz : ¬ (0 : Int) ≤ (j : Int) - 1 := by omega
        subst hj0
        go_wp2_with fail
        go_ret2
        exact postInts (HR.out.trans (by rw [HF.out])) (hown.mono hs1) hb
      · obtain ⟨i, rfl⟩ : ∃ i, j = i + 1 := ⟨j - 1, by omega⟩
        obtain ⟨g, rfl, hc⟩ := hpath.cell (by omega)
        have hci := hc i (by omega)
        have he : ((i + 1 : Nat) : Int) - 1 = (i : Int) := by omega
        rw [he]
        have hi1 : (i : Int) < (q1 : Int) := by omega
        clear hc hj0
        by_cases hp : (pathL hs).getD i false = true
        · have HT2 : Hid (turnF (pathL hs) i out (r + 1) = turnL hs) := hid (by have := HT.out; simp only [turnF] at this; rw [if_pos hp] at this; exact this)
          rw [hp] at hci
          clear hp
          go_wp2_with fail
          go_roundw
          case rel => exact ⟨i, r + 1, q, a', cq, out, by omega, by go_num, by go_num, rfl, by omega, by omega, HT2, hown, hpath, hb, hsz⟩
          case measure => simp [intOf]
        · have HLO := hid hown.len
          have HT2 : Hid (turnF (pathL hs) i (out ++ [(q : Int) - (r : Int)]) r = turnL hs) := hid (by have := HT.out; simp only [turnF] at this; rw [if_neg hp, HLO.out] at this; exact this)
          rw [Bool.eq_false_iff.2 hp] at hci
          clear hp
          go_wp2_with (at_builtin; refine wpList_append_int _ rfl _ _ rfl w1.heap.size _ _ _ _ _ rfl rfl hown (by omega) hsz ?_; intro a3 c3 w3 hown3 hb3)
          go_roundw
          case rel => exact ⟨i, r, q + 1, a3, c3, _, by omega, by go_num, rfl, rfl, by omega, by omega, HT2, hown3, hpath.below hb3 lt1, hb.trans (hb3.mono hs1), Nat.le_trans hsz hb3.size⟩
          case measure => simp [intOf]
  · have HR : Hid (turnOf' hs = ([], false)) := hid (by simp only [turnOf']; rw [if_neg hg])
    have HG := hid (Bool.eq_false_iff.2 hg)
    clear hg
    go_enter Try.func35, Try.ntmps35
    go_wp2_with fail
    refine (waHeights_any _ _ _ _ _ h).mono ?_
    rintro e w' ⟨rfl, rfl⟩
    rw [HG.out]
    go_wp2_with fail
    go_ret2
    exact postInts_no HR.out (Below.refl _ _)

def TnAt (hs ys : List Int) (k : Nat) : Prop := ∀ i, i < k → nth ys i = turnAt hs i
theorem tn_all {hs ys : List Int} {n : Nat} (h : TnAt hs ys n) (hl : ys.length = n) (hn : hs.length = n) : ys = turnL hs := ext_nth (by unfold turnL; simp; omega) fun i hi => by
  rw [h i (by omega)]
  unfold turnL nth
  simp [show i < hs.length by omega]
theorem tn_step {hs ys : List Int} {k n : Nat} (h : TnAt hs ys k) (hl : ys.length = n) (hk : k < n) : TnAt hs (ys.set k (turnAt hs k)) (k + 1) := fun i hi => by
  rw [nth_set (by omega)]
  split
  · subst_vars; rfl
  · exact h i (by omega)
theorem Own.setNe' {w : World} {B g i n cap : Nat} {a : Option Addr} {xs : List Int} (h : Own w B a n cap xs) (hg : ∀ p, a = some p → p.block ≠ g) (u : Value) : Own (w.setCell ⟨g, i, none⟩ u) B a n cap xs := by
  refine ⟨?_, h.2⟩
  have h1 := h.1
  refine ⟨by simpa using h1.1, ?_⟩
  rcases h1.2 with h2 | ⟨k, cap', cur, hv, hk, hh, r⟩
  · exact .inl h2
  · refine .inr ⟨k, cap', cur, hv, hk, ?_, r⟩
    simp at hv
    have := hg _ hv.1
    rw [Below.heap_setCell _ _ _ _ (by simpa using this)]
    exact hh
theorem BlkLt.ne' {a : Option Addr} {K g : Nat} (h : BlkLt a K) (hg : K ≤ g) : ∀ p, a = some p → p.block ≠ g := fun p hp e => by have := h p hp; omega

set_option maxHeartbeats 2000000 in
theorem implTurnH_any (a : Option Addr) (n cap : Nat) (hs : List Int) (w : World) (h : Has w a n cap hs) :
    Calls Try.prog 34 #[.slice a n cap] w (PostInts w (turnOf' hs)) := by
  have HL := hid h.len
  have hle := h.le
  by_cases hg : hgtB hs = true
  · have HR : Hid (turnOf' hs = (turnL hs, true)) := hid (by simp only [turnOf']; rw [if_pos hg])
    have HG := hid hg
    obtain ⟨h8, hbd⟩ := hgt_of hg h.len
    have HBD := hid hbd
    clear hg hbd
    go_enter Try.func34, Try.ntmps34
    go_wp2_with fail
    refine (implAreHeights_any _ _ _ _ _ h).mono ?_
    rintro e w1 ⟨rfl, st1⟩
    rw [HG.out]
    have hbb1 := st1
    go_wp2_with fail
    refine (starts_any _ _ _ _ _ (h.below st1 (Nat.le_refl _)) h8 HBD.out).mono ?_
    rintro e w2 ⟨a2, c2, rfl, own2, st2⟩
    have hb2 := st1.trans (st2.mono st1.size)
    have lt2 := own2.lt
    have hs1 := st1.size
    have hs2 := st2.size
    clear st2 hbb1
    go_wp2_with (at_make; refine wpList_make_ints _ rfl _ _ rfl n rfl rfl (by omega) ?_; intro a' cap' w3 hown3 hb3)
    have own3 := own2.below hb3 (Nat.le_refl _)
    have hbw := hb2.trans (hb3.mono hb2.size)
    clear own2
    go_loopw [19] (fun i wr => ∃ (k : Nat) (ys : List Int), k ≤ n ∧ i = .int .i64 k ∧ Own wr w2.heap.size a' n cap' ys ∧ Own wr w1.heap.size a2 n c2 (startsTo hs n) ∧ Hid (TnAt hs ys k) ∧ Below w.heap.size w wr) (fun i _ => n - (intOf i).toNat)
    case atStart => exact ⟨0, _, Nat.zero_le _, rfl, hown3, own3, hid (fun i hi => by omega), hbw⟩
    case round =>
      obtain ⟨k, ys, hk, rfl, hown, hst, HT, hb⟩ := hrel
      clear hown3 own3 hbw hb3
      by_cases hlt : k < n
      · obtain ⟨g, rfl, hg1, hg2, hg3, hg4⟩ := hown.opened (by omega)
        have hgx := hg3 k hlt
        have hgf := hg4 k
        have hbl := below_le (startsTo hs n) ((n : Int) - (k : Int))
        rw [length_startsTo] at hbl
        have hv : Hid (turnAt hs k = (k : Int) - ((n : Int) - (below (startsTo hs n) ((n : Int) - (k : Int)) : Int))) := hid (by unfold turnAt startsL; rw [HL.out])
        obtain ⟨z, hz⟩ : ∃ z : Nat, below (startsTo hs n) ((n : Int) - (k : Int)) = z := ⟨_, rfl⟩
        rw [hz] at hv hbl
        have HZ := hid hz
        obtain ⟨s1, s2⟩ := hown.set k ((k : Int) - ((n : Int) - (z : Int)))
        have HT2 : Hid (TnAt hs (ys.set k ((k : Int) - ((n : Int) - (z : Int)))) (k + 1)) := hid (by rw [← hv.out]; exact tn_step HT.out hown.len hlt)
        have hst2 := hst.setNe' (g := g) (i := k) (lt2.ne' hg1) (.int .i64 ((k : Int) - ((n : Int) - (z : Int))))
        have hb4 := hb.setCell (p := ⟨g, k, none⟩) (by simp; omega) (.int .i64 ((k : Int) - ((n : Int) - (z : Int))))
        clear hg3 hg4 hz
        go_wp2_with fail
        refine (countBelow_any _ _ _ _ ((n : Int) - (k : Int)) _ hst.has).mono ?_
        rw [HZ.out]
        rintro e w' ⟨rfl, rfl⟩
        go_wp2_with fail
        go_roundw
        case rel => exact ⟨k + 1, _, by omega, by go_num, s1, hst2, HT2, hb4⟩
        case measure => simp [intOf]; omega
      · obtain rfl : k = n := by omega
        have HE : Hid (ys = turnL hs) := hid (tn_all HT.out hown.len HL.out)
        go_wp2_with fail
        go_ret2
        exact postInts (HR.out.trans (by rw [HE.out])) (hown.mono (by omega)) hb
  · have HR : Hid (turnOf' hs = ([], false)) := hid (by simp only [turnOf']; rw [if_neg hg])
    have HG := hid (Bool.eq_false_iff.2 hg)
    clear hg
    go_enter Try.func34, Try.ntmps34
    go_wp2_with fail
    refine (implAreHeights_any _ _ _ _ _ h).mono ?_
    rintro e w1 ⟨rfl, st1⟩
    rw [HG.out]
    go_wp2_with fail
    go_ret2
    exact postInts_no HR.out st1
end Go.Proofs.Ytakadjhbomggbaa

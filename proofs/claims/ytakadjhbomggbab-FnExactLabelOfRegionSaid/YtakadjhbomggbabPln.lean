/- Planes in memory: slices of structures of three numbers; all planes, made; points, decided by them. -/
import Derived.Test.YtakadjhbomggbabMathPl
import Derived.Test.YtakadjhbomggbabImplA
import Derived.Test.YtakadjhbomggbabImplC
import Derived.Test.YtakadjhbomggbabSpecC
namespace Go.Proofs.Ytakadjhbomggbab
open Go.RowKit

def plC (p : Pl) : List Value := [.int .i64 p.1, .int .i64 p.2.1, .int .i64 p.2.2]
/-- The slice is one of the call's own, and holds the planes. -/
def OwnP (w : World) (B : Nat) (a : Option Addr) (n cap : Nat) (ps : List Pl) : Prop :=
  w.ownsRow B 89 3 (.slice a n cap) n (ps.flatMap plC) ∧ ps.length = n ∧ n ≤ 1000
theorem OwnP.len {w : World} {B : Nat} {a : Option Addr} {n cap : Nat} {ps : List Pl} (h : OwnP w B a n cap ps) : ps.length = n := h.2.1
theorem OwnP.nil (w : World) (B : Nat) : OwnP w B none 0 0 [] := ⟨⟨by simp, .inl ⟨rfl, rfl⟩⟩, by simp⟩
theorem flat_at : ∀ {ps : List Pl} {k j : Nat}, k < ps.length → j < 3 → (ps.flatMap plC)[k * 3 + j]? = (plC (nthP ps k))[j]?
  | [], k, j, h, _ => by simp at h
  | p :: ps, 0, j, _, hj => by
    rw [List.flatMap_cons, List.getElem?_append_left (by simp [plC]; omega)]
    simp [nthP]
  | p :: ps, k + 1, j, h, hj => by
    rw [List.flatMap_cons, List.getElem?_append_right (by simp [plC]; omega)]
    have := flat_at (ps := ps) (k := k) (j := j) (by simpa using h) hj
    have e : (k + 1) * 3 + j - (plC p).length = k * 3 + j := by simp [plC]; omega
    rw [e, this]
    simp [nthP]
theorem OwnP.cell {w : World} {B : Nat} {a : Option Addr} {n cap : Nat} {ps : List Pl} (h : OwnP w B a n cap ps) (hx : 0 < n) :
    ∃ g, a = some ⟨g, 0, none⟩ ∧ B ≤ g ∧ g < w.heap.size ∧ ∀ k, k < n → w.cell? ⟨g, k * 3, none⟩ = some (.int .i64 (nthP ps k).1) ∧ w.cell? ⟨g, k * 3 + 1, none⟩ = some (.int .i64 (nthP ps k).2.1) ∧ w.cell? ⟨g, k * 3 + 2, none⟩ = some (.int .i64 (nthP ps k).2.2) := by
  obtain ⟨⟨h1, h2⟩, h0, h3⟩ := h
  rcases h2 with ⟨hv, hn⟩ | ⟨g, cap', cur, hv, hg, hh, hnc, hcm, hcs, htake⟩
  · omega
  · simp at hv
    obtain ⟨rfl, rfl⟩ := hv
    refine ⟨g, rfl, hg, (Array.getElem?_eq_some_iff.1 hh).1, fun k hk => ?_⟩
    have key : ∀ j, j < 3 → w.cell? ⟨g, k * 3 + j, none⟩ = (plC (nthP ps k))[j]? := fun j hj => by
      rw [cell_of_row w g (k * 3 + j) cur 89 (0, 0) hh]
      have e : (cur.toList.take (n * 3))[k * 3 + j]? = (ps.flatMap plC)[k * 3 + j]? := by rw [htake]
      rw [List.getElem?_take, if_pos (by omega), flat_at (by omega) hj] at e
      rw [← e]
      simp
    exact ⟨by have := key 0 (by omega); simpa [plC] using this, by have := key 1 (by omega); simpa [plC] using this, by have := key 2 (by omega); simpa [plC] using this⟩
theorem OwnP.below {w w' : World} {B K : Nat} {a : Option Addr} {n cap : Nat} {ps : List Pl} (h : OwnP w B a n cap ps) (hb : Below K w w') (hB : w.heap.size ≤ K) : OwnP w' B a n cap ps := by
  obtain ⟨⟨h1, h2⟩, h3⟩ := h
  refine ⟨⟨h1, ?_⟩, h3⟩
  rcases h2 with h2 | ⟨g, cap', cur, hv, hg, hh, r⟩
  · exact .inl h2
  · exact .inr ⟨g, cap', cur, hv, hg, by rw [hb.block g (by have := (Array.getElem?_eq_some_iff.1 hh).1; omega)]; exact hh, r⟩
theorem OwnP.mono {w : World} {B B' : Nat} {a : Option Addr} {n cap : Nat} {ps : List Pl} (h : OwnP w B a n cap ps) (hB : B' ≤ B) : OwnP w B' a n cap ps := by
  obtain ⟨⟨h1, h2⟩, h3⟩ := h
  refine ⟨⟨h1, ?_⟩, h3⟩
  rcases h2 with h2 | ⟨g, cap', cur, hv, hg, r⟩
  · exact .inl h2
  · exact .inr ⟨g, cap', cur, hv, by omega, r⟩
theorem Try.infoPlane : (Try.prog.info? 89).map (fun i => (i.zero, i.size, i.bytes)) = some (some (.agg #[.int .i64 0, .int .i64 0, .int .i64 0]), 3, 24) := by kernel_rfl
theorem ownP_of_row {w : World} {B : Nat} {v : Value} {n : Nat} {us : List Value} {ps : List Pl} (h : w.ownsRow B 89 3 v n us) (hn : n = ps.length) (hu : us = ps.flatMap plC) (hl : ps.length ≤ 1000) :
    ∃ a cap, v = .slice a n cap ∧ OwnP w B a n cap ps := by
  subst hu
  have h' := h
  rcases h.2 with ⟨hv, h0⟩ | ⟨g, cap, cur, hv, _⟩
  · refine ⟨none, 0, by rw [hv, h0], ?_⟩
    rw [hv] at h
    exact ⟨by rw [h0] at h ⊢; exact h, hn.symm, by omega⟩
  · exact ⟨_, cap, hv, by rw [hv] at h'; exact h', hn.symm, by omega⟩
theorem six_cells (w : World) (x0 x1 x2 x3 x4 x5 : Value) : ∀ j u, [x0, x1, x2, x3, x4, x5][j]? = some u → (w.alloc (.cells #[x0, x1, x2, x3, x4, x5] 89)).cell? ((⟨w.heap.size, 0, none⟩ : Addr).add j) = some u := by
  intro j u hj
  match j, hj with
  | 0, hj => simp at hj; subst hj; simp [Addr.add]
  | 1, hj => simp at hj; subst hj; simp [Addr.add]
  | 2, hj => simp at hj; subst hj; simp [Addr.add]
  | 3, hj => simp at hj; subst hj; simp [Addr.add]
  | 4, hj => simp at hj; subst hj; simp [Addr.add]
  | 5, hj => simp at hj; subst hj; simp [Addr.add]
  | j + 6, hj => simp at hj
/-- 'append(planes, p, q)'. -/
theorem wpList_append_planes {ops : Array Oper} {rest : List Oper} {o : Oper} {a : Act} {Q : Exit → Act → World → Prop} (w : World) (hgd : o.guard = none) (s x : Operand)
    (ho : o.op = .call { callee := .builtin .append, args := #[s, x], argTypes := #[86, 86] })
    (B : Nat) (a0 : Option Addr) (n cap : Nat) (ps : List Pl) (p q : Pl) (hs : a.eval s = .slice a0 n cap) (hx : a.eval x = .slice (some ⟨w.heap.size, 0, none⟩) 2 2)
    (hown : OwnP w B a0 n cap ps) (hl : n + 2 ≤ 1000) (hB : B ≤ w.heap.size)
    (h : ∀ a' cap' w', OwnP w' B a' (n + 2) cap' (ps ++ [p, q]) → Below B w w' → wpList Try.prog ops Q rest (a.put o.dst (.slice a' (n + 2) cap')) w') :
    wpList Try.prog ops Q (o :: rest) a (w.alloc (.cells #[.int .i64 p.1, .int .i64 p.2.1, .int .i64 p.2.2, .int .i64 q.1, .int .i64 q.2.1, .int .i64 q.2.2] 89)) := by
  obtain ⟨i0, hi, hz0, hz1, hz2⟩ := info_parts Try.infoPlane
  have hlen := hown.len
  refine wpList_append_own (P := Try.prog) _ hgd s x 86 ho B 89 i0 _ 3 24 Try.underlying86 hi hz0 hz1 hz2 rfl (by decide) _ n (ps.flatMap plC) hs (hown.1.alloc _) ⟨w.heap.size, 0, none⟩ 2 2 [.int .i64 p.1, .int .i64 p.2.1, .int .i64 p.2.2, .int .i64 q.1, .int .i64 q.2.1, .int .i64 q.2.2] hx rfl (six_cells w _ _ _ _ _ _) (by intro u hu; simp at hu; rcases hu with rfl | rfl | rfl | rfl | rfl | rfl <;> rfl) (by unfold maxLen; omega) (by omega) (by simp; omega) ?_
  intro v' w' hown' hgrow _
  have hb : Below B w w' := ((Below.refl B w).alloc hB _).grown hgrow (by simp; omega) (fun k hk => (hown.1.lt k hk).1)
  obtain ⟨a', cap', rfl, ho'⟩ := ownP_of_row (ps := ps ++ [p, q]) hown' (by simp [hlen]) (by simp [plC]) (by simp; omega)
  exact h _ _ _ ho' hb
set_option maxRecDepth 100000 in
set_option maxHeartbeats 1600000 in
theorem planesOf_any (n : Nat) (w : World) (h8 : n ≤ 8) :
    Calls Try.prog 76 #[.int .i64 (n : Int)] w fun e w' => ∃ a m cap, e = .returned (.slice a m cap) ∧ OwnP w' w.heap.size a m cap (plAll n) ∧ Below w.heap.size w w' := by
  have HLN := hid (fun k (hk : k ≤ 8) => length_plAll k hk)
  have HRL := hid length_plRow
  go_enter Try.func76, Try.ntmps76
  go_wp2_with fail
  go_loopw [3, 7] (fun o i wr => ∃ (s m : Nat) (a' : Option Addr) (cap' : Nat), s ≤ n ∧ i = .int .i64 (s : Int) ∧ o = .slice a' m cap' ∧ OwnP wr w.heap.size a' m cap' (plAll s) ∧ Below w.heap.size w wr) (fun _ i _ => n - (intOf i).toNat)
  case atStart => exact ⟨0, 0, none, 0, by omega, rfl, rfl, OwnP.nil _ _, Below.refl _ _⟩
  case round =>
    obtain ⟨s, m, a', cap', hs, rfl, rfl, o1, hb⟩ := hrel
    by_cases hsn : s < n
    · have hm56 : m ≤ 56 := by have := HLN.out s (by omega); rw [o1.len] at this; exact this
      go_wp2_with fail
      go_loopw [3, 11] (fun o i wr => ∃ (f m : Nat) (a' : Option Addr) (cap' : Nat), f ≤ s ∧ i = .int .i64 (f : Int) ∧ o = .slice a' m cap' ∧ OwnP wr w.heap.size a' m cap' (plAll s ++ plRow s f) ∧ Below w.heap.size w wr) (fun _ i _ => s - (intOf i).toNat)
      case atStart => exact ⟨0, m, a', cap', by omega, rfl, rfl, by simpa [plRow] using o1, hb⟩
      case round =>
        clear o1 hb
        obtain ⟨f, m2, a2, cap2, hf, rfl, rfl, o1, hb⟩ := hrel
        by_cases hfs : f < s
        · have hm2 : m2 ≤ 80 := by have h1 := o1.len; rw [List.length_append, HRL.out] at h1; have := HLN.out s (by omega); omega
          have hsz := hb.size
          go_wp2_with (at_builtin; refine wpList_append_planes _ rfl _ _ rfl w.heap.size _ _ _ _ ((f : Int), (s : Int), 0) ((f : Int), (s : Int), 100) rfl rfl o1 (by omega) hsz ?_; intro a3 cap3 w3 o3 hb3)
          go_roundw
          case rel => exact ⟨f + 1, m2 + 2, a3, cap3, by omega, by go_num, rfl, by rw [plRow, ← List.append_assoc]; exact o3, hb.trans hb3⟩
          case measure => simp [intOf]; omega
        · obtain rfl : f = s := by omega
          go_wp2_with fail
          go_roundw
          case rel => exact ⟨f + 1, m2, a2, cap2, by omega, by go_num, rfl, o1, hb⟩
          case measure => simp [intOf]; omega
    · obtain rfl : s = n := by omega
      go_wp2_with fail
      go_ret
      exact ⟨_, _, _, rfl, o1, hb⟩

theorem point_no8 {xs : List Int} (h : ¬ xs.length ≤ 8) : pointB xs = false := by simp [pointB, h]
theorem point_noA {xs : List Int} {i : Nat} (h : i < xs.length) (hx : ¬ (-100000 ≤ nth xs i ∧ nth xs i ≤ 100000)) : pointB xs = false := by
  rw [Bool.eq_false_iff]
  intro e
  exact hx (allB_nth (pointB_iff.1 e).2.1 h)
theorem point_noP {xs : List Int} {n k : Nat} (hn : xs.length = n) (h : k < (plAll n).length) (hx : nth xs (nthP (plAll n) k).1.toNat - nth xs (nthP (plAll n) k).2.1.toNat = (nthP (plAll n) k).2.2) : pointB xs = false := by
  subst hn
  rw [Bool.eq_false_iff]
  intro e
  exact planes_pairs.1 (pointB_iff.1 e).2.2 k h hx
theorem point_ok {xs : List Int} {n : Nat} (hn : xs.length = n) (h8 : n ≤ 8) (h1 : ∀ i, i < n → -100000 ≤ nth xs i ∧ nth xs i ≤ 100000) (h2 : ∀ k, k < (plAll n).length → nth xs (nthP (plAll n) k).1.toNat - nth xs (nthP (plAll n) k).2.1.toNat ≠ (nthP (plAll n) k).2.2) : pointB xs = true := by
  subst hn
  refine pointB_iff.2 ⟨h8, allB_iff.2 (fun x hx => ?_), planes_pairs.2 h2⟩
  obtain ⟨i, hi, rfl⟩ := mem_nth hx
  exact h1 i hi
set_option maxRecDepth 100000 in
set_option maxHeartbeats 2000000 in
theorem isPoint_any (a : Option Addr) (n cap : Nat) (xs : List Int) (w : World) (h : Has w a n cap xs) :
    Calls Try.prog 47 #[.slice a n cap] w (PostBool w (pointB xs)) := by
  have HL := hid h.len
  by_cases h8 : n ≤ 8
  · go_enter Try.func47, Try.ntmps47
    go_wp2_with fail
    go_loop [12] (fun i => ∃ k : Nat, k ≤ n ∧ i = .int .i64 (k : Int) ∧ Hid (∀ j, j < k → -100000 ≤ nth xs j ∧ nth xs j ≤ 100000)) (fun i => n - (intOf i).toNat)
    case atStart => exact ⟨0, by omega, rfl, hid (fun j hj => by omega)⟩
    case round =>
      obtain ⟨k, hk, rfl, HB⟩ := hrel
      by_cases hkn : k < n
      · obtain ⟨b0, off, rfl, hbb, hc⟩ := h.2.2.2.2 (by omega)
        have hck := hc k hkn
        clear hc
        by_cases hr : -100000 ≤ nth xs k ∧ nth xs k ≤ 100000
        · have HN : Hid (∀ j, j < k + 1 → -100000 ≤ nth xs j ∧ nth xs j ≤ 100000) := hid (fun j hj => by
            by_cases e : j = k
            · subst e; exact hr
            · exact HB.out j (by omega))
          obtain ⟨r1, r2⟩ := hr
          go_wp2_with fail
          go_round
          case rel => exact ⟨k + 1, by omega, by go_num, HN⟩
          case measure => simp [intOf]; omega
        · have HR := hid (point_noA (xs := xs) (i := k) (by rw [HL.out]; exact hkn) hr)
          by_cases r1 : nth xs k < -100000
          · go_wp2_with fail
            go_ret
            exact postBool HR.out.symm (Below.refl _ _)
          · have r2 : 100000 < nth xs k := by omega
            go_wp2_with fail
            go_ret
            exact postBool HR.out.symm (Below.refl _ _)
      · obtain rfl : k = n := by omega
        go_wp2_with fail
        refine (planesOf_any k _ h8).mono ?_
        rintro e w1 ⟨a1, m, cap1, rfl, oP, hb1⟩
        have h1 := h.below hb1 (Nat.le_refl _)
        have hm := hid oP.len
        have hm56 : m ≤ 56 := by rw [← oP.len]; exact length_plAll k h8
        have HM := hid (fun j (hj : j < m) => plane_at (n := k) (k := j) (by rw [hm.out]; exact hj))
        go_wp2_with fail
        go_loopw [27] (fun i wr => ∃ j : Nat, j ≤ m ∧ i = .int .i64 (j : Int) ∧ Hid (∀ q, q < j → nth xs (nthP (plAll k) q).1.toNat - nth xs (nthP (plAll k) q).2.1.toNat ≠ (nthP (plAll k) q).2.2) ∧ Below w1.heap.size w1 wr) (fun i _ => m - (intOf i).toNat)
        case atStart => exact ⟨0, by omega, rfl, hid (fun q hq => by omega), Below.refl _ _⟩
        case round =>
          obtain ⟨j, hj, rfl, HJ, hb⟩ := hrel
          have hbw := hb1.trans (hb.mono hb1.size)
          by_cases hjm : j < m
          · obtain ⟨i, s, p1, p2, p3, p4, p5⟩ := HM.out j hjm
            obtain ⟨g, rfl, hg1, hg2, hcc⟩ := (oP.below hb (Nat.le_refl _)).cell (by omega)
            obtain ⟨c0, c1, c2⟩ := hcc j hjm
            have HNO := hid (fun hx => point_noP (xs := xs) (n := k) (k := j) HL.out (by rw [hm.out]; exact hjm) hx)
            have HNX := hid (fun (hx : nth xs (nthP (plAll k) j).1.toNat - nth xs (nthP (plAll k) j).2.1.toNat ≠ (nthP (plAll k) j).2.2) => (fun q (hq : q < j + 1) => by
              by_cases e : q = j
              · subst e; exact hx
              · exact HJ.out q (by omega) : ∀ q, q < j + 1 → nth xs (nthP (plAll k) q).1.toNat - nth xs (nthP (plAll k) q).2.1.toNat ≠ (nthP (plAll k) q).2.2))
            obtain ⟨c, hc⟩ : ∃ c, (nthP (plAll k) j).2.2 = c := ⟨_, rfl⟩
            rw [p3, p4, hc, Int.toNat_natCast, Int.toNat_natCast] at HNO HNX
            rw [p3] at c0
            rw [p4] at c1
            rw [hc] at c2 p5
            clear hcc p3 p4 hc
            have hx := h1.below hb (Nat.le_refl _)
            obtain ⟨b0, off, rfl, hbb, hcx⟩ := hx.2.2.2.2 (by omega)
            have x1 := hcx i (by omega)
            have x2 := hcx s (by omega)
            have hi1 : (i : Int) < (k : Int) := by omega
            have hi0 : (0 : Int) ≤ (i : Int) := by omega
            have hs1 : (s : Int) < (k : Int) := by omega
            have hs0 : (0 : Int) ≤ (s : Int) := by omega
            have q1 := HB.out i (by omega)
            have q2 := HB.out s (by omega)
            have hwr : IntKind.i64.wrap (nth xs i - nth xs s) = nth xs i - nth xs s := IntWalk.i64_in _ (by omega)
            clear q1 q2
            generalize nth xs i = u at *
            generalize nth xs s = v at *
            have hbA : Below w1.heap.size w1 (wr.alloc (.cells #[.int .i64 (i : Int), .int .i64 (s : Int), .int .i64 c] 89)) := hb.alloc hb.size _
            have y1 := (Below.refl wr.heap.size wr).alloc (Nat.le_refl _) (.cells #[.int .i64 (i : Int), .int .i64 (s : Int), .int .i64 c] 89)
            have z1 := (y1.cell (p := ⟨b0, off + i, none⟩) hbb).trans x1
            have z2 := (y1.cell (p := ⟨b0, off + s, none⟩) hbb).trans x2
            clear hcx x1 x2 y1
            by_cases he : u - v = c
            · have HR := hid (HNO.out he)
              have hbe : (u - v == c) = true := by simp [he]
              go_wp2_with fail
              go_quiet (fail)
              go_wp2_with fail
              go_ret
              exact postBool HR.out.symm (below_drewN (hb1.trans (hbA.mono hb1.size)) _)
            · have HN := hid (HNX.out he)
              have hbe : (u - v == c) = false := by simp [he]
              go_wp2_with fail
              go_quiet (fail)
              go_wp2_with fail
              go_roundw
              case rel => exact ⟨j + 1, by omega, by go_num, HN, below_drewN hbA _⟩
              case measure => simp [intOf]; omega
          · obtain rfl : j = m := by omega
            have HR := hid (point_ok HL.out h8 HB.out (by rw [hm.out]; exact HJ.out))
            go_wp2_with fail
            go_ret
            exact postBool HR.out.symm hbw
  · have HR := hid (point_no8 (xs := xs) (by rw [HL.out]; exact h8))
    have h9 : (8 : Int) < (n : Int) := by omega
    go_enter Try.func47, Try.ntmps47
    go_wp2_with fail
    go_ret
    exact postBool HR.out.symm (Below.refl _ _)
end Go.Proofs.Ytakadjhbomggbab

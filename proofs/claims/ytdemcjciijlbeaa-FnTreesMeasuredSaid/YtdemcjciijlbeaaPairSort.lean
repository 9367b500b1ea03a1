/- Rows of two numbers sorted by the library's comparison. -/
import Derived.Test.YtdemcjciijlbeaaSortF
import Derived.Test.YtdemcjciijlbeaaHelp2
import Derived.Test.YtdemcjciijlbeaaMathIv
import Derived.Test.YtdemcjciijlbeaaShelfB
namespace Go.Proofs.Ytdemcjciijlbeaa
open Go.RowKit Go.Sort

theorem isNaNP_any (x : Int) (w : World) : Calls Try.prog 52 #[.int .i64 x] w fun e w' => e = .returned (.bool false) ∧ w = w' := by
  have hx : (x != x) = false := by simp
  go_enter Try.func52, Try.ntmps52
  go_wp2_with fail
  go_ret
  exact ⟨rfl, rfl⟩
set_option maxHeartbeats 400000 in
theorem compareP_any (x y : Int) (w : World) : Calls Try.prog 36 #[.int .i64 x, .int .i64 y] w fun e w' => e = .returned (.int .i64 (cmpI x y)) ∧ w = w' := by
  by_cases h1 : x < y
  · have HR : Hid (cmpI x y = -1) := hid (by simp [cmpI, h1])
    go_enter Try.func36, Try.ntmps36
    go_wp2_with (go_at_call 52; refine (isNaNP_any _ _).mono ?_; rintro e w' ⟨rfl, rfl⟩)
    go_ret
    exact ⟨ret_int HR.out.symm, rfl⟩
  · by_cases h2 : y < x
    · have HR : Hid (cmpI x y = 1) := hid (by simp [cmpI, h1, h2])
      go_enter Try.func36, Try.ntmps36
      go_wp2_with (go_at_call 52; refine (isNaNP_any _ _).mono ?_; rintro e w' ⟨rfl, rfl⟩)
      go_ret
      exact ⟨ret_int HR.out.symm, rfl⟩
    · have HR : Hid (cmpI x y = 0) := hid (by simp [cmpI, h1, h2])
      go_enter Try.func36, Try.ntmps36
      go_wp2_with (go_at_call 52; refine (isNaNP_any _ _).mono ?_; rintro e w' ⟨rfl, rfl⟩)
      go_ret
      exact ⟨ret_int HR.out.symm, rfl⟩

/-- A pair that a comparison may read. -/
def PFit (w : World) (r : Rw) : Prop := Has w r.a r.xs.length r.c r.xs ∧ r.xs.length = 2 ∧ 0 ≤ nth r.xs 1 ∧ nth r.xs 1 ≤ 9
theorem cmp_pair {xs ys : List Int} (h1 : 0 ≤ nth xs 1) (h2 : nth xs 1 ≤ 9) (h3 : 0 ≤ nth ys 1) (h4 : nth ys 1 ≤ 9) : cmpI (pairC xs) (pairC ys) = if nth xs 0 = nth ys 0 then cmpI (nth xs 1) (nth ys 1) else cmpI (nth xs 0) (nth ys 0) := by
  unfold pairC
  by_cases e : nth xs 0 = nth ys 0
  · rw [if_pos e, e]
    unfold cmpI
    by_cases l : nth xs 1 < nth ys 1
    · rw [if_pos l, if_pos (by omega)]
    · by_cases g : nth ys 1 < nth xs 1
      · rw [if_neg l, if_pos g, if_neg (by omega), if_pos (by omega)]
      · rw [if_neg l, if_neg g, if_neg (by omega), if_neg (by omega)]
  · rw [if_neg e]
    unfold cmpI
    by_cases l : nth xs 0 < nth ys 0
    · rw [if_pos l, if_pos (by omega)]
    · rw [if_neg l, if_neg (by omega), if_pos (by omega), if_pos (by omega)]
theorem cmpI_ne {x y : Int} (h : x ≠ y) : (cmpI x y != 0) = true := by
  unfold cmpI
  by_cases l : x < y
  · simp [l]
  · by_cases g : y < x
    · simp [l, g]
    · omega
theorem cmpI_self {x y : Int} (h : x = y) : cmpI x y = 0 := by subst h; simp [cmpI]

set_option maxHeartbeats 1000000 in
theorem comparePair_any (r s : Rw) (w : World) (hr : PFit w r) (hs : PFit w s) : Calls Try.prog 21 #[r.v, s.v] w fun e w' => e = .returned (.int .i64 (cmpI (pairC r.xs) (pairC s.xs))) ∧ w = w' := by
  obtain ⟨a, ca, xs⟩ := r
  obtain ⟨b, cb, ys⟩ := s
  unfold Rw.v
  obtain ⟨r1, r2, r3, r4⟩ := hr
  obtain ⟨s1, s2, s3, s4⟩ := hs
  simp only at *
  have HC := hid (cmp_pair r3 r4 s3 s4)
  rw [r2] at r1
  rw [s2] at s1
  rw [r2, s2]
  obtain ⟨b1, off1, rfl, hb1, c1⟩ := r1.2.2.2.2 (by omega)
  obtain ⟨b2, off2, rfl, hb2, c2⟩ := s1.2.2.2.2 (by omega)
  have x0 := c1 0 (by omega)
  have x1 := c1 1 (by omega)
  have y0 := c2 0 (by omega)
  have y1 := c2 1 (by omega)
  rw [Nat.add_zero] at x0 y0
  clear c1 c2 r1 s1 r2 s2
  by_cases e0 : nth xs 0 = nth ys 0
  · have hz := hid (cmpI_self e0)
    rw [if_pos e0] at HC
    clear e0
    by_cases e1 : nth xs 1 = nth ys 1
    · have hz1 := hid (cmpI_self e1)
      clear e1
      go_enter Try.func21, Try.ntmps21
      go_wp2_with fail
      go_loop [11] (fun i => ∃ k : Nat, k ≤ 2 ∧ i = .int .i64 k) (fun i => 2 - (intOf i).toNat)
      case atStart => exact ⟨0, Nat.zero_le _, rfl⟩
      case round =>
        obtain ⟨k, hk, rfl⟩ := hrel
        match k, hk with
        | 0, _ =>
          go_wp2_with (go_at_call 36; refine (compareP_any _ _ _).mono ?_; rintro e w' ⟨rfl, rfl⟩; rw [hz.out])
          go_round
          case rel => exact ⟨1, by omega, by go_num⟩
          case measure => simp [intOf]
        | 1, _ =>
          go_wp2_with (go_at_call 36; refine (compareP_any _ _ _).mono ?_; rintro e w' ⟨rfl, rfl⟩; rw [hz1.out])
          go_round
          case rel => exact ⟨2, by omega, by go_num⟩
          case measure => simp [intOf]
        | 2, _ =>
          go_wp2_with fail
          go_ret
          exact ⟨ret_int (HC.out.trans hz1.out).symm, rfl⟩
    · have hne := cmpI_ne e1
      clear e1
      go_enter Try.func21, Try.ntmps21
      go_wp2_with fail
      go_loop [11] (fun i => ∃ k : Nat, k ≤ 1 ∧ i = .int .i64 k) (fun i => 2 - (intOf i).toNat)
      case atStart => exact ⟨0, Nat.zero_le _, rfl⟩
      case round =>
        obtain ⟨k, hk, rfl⟩ := hrel
        match k, hk with
        | 0, _ =>
          go_wp2_with (go_at_call 36; refine (compareP_any _ _ _).mono ?_; rintro e w' ⟨rfl, rfl⟩; rw [hz.out])
          go_round
          case rel => exact ⟨1, by omega, by go_num⟩
          case measure => simp [intOf]
        | 1, _ =>
          go_wp2_with (go_at_call 36; refine (compareP_any _ _ _).mono ?_; rintro e w' ⟨rfl, rfl⟩)
          go_ret
          exact ⟨ret_int HC.out.symm, rfl⟩
  · have hne := cmpI_ne e0
    rw [if_neg e0] at HC
    clear e0
    go_enter Try.func21, Try.ntmps21
    go_wp2_with fail
    go_loop [11] (fun i => i = .int .i64 0) (fun _ => 0)
    case atStart => rfl
    case round =>
      subst hrel
      go_wp2_with (go_at_call 36; refine (compareP_any _ _ _).mono ?_; rintro e w' ⟨rfl, rfl⟩)
      go_ret
      exact ⟨ret_int HC.out.symm, rfl⟩
theorem PFit.kept {w w' : World} {r : Rw} {g : Nat} (h : PFit w r) (hg : w.grownBy w' (some g)) (hne : ∀ p, r.a = some p → p.block ≠ g) : PFit w' r := ⟨h.1.kept hg hne, h.2⟩
theorem attachP_map {β : Type} (f : Rw → β) (rs : List Rw) : rs.attach.map (fun x => f x.1) = rs.map f := by
  rw [show (fun x : {r : Rw // r ∈ rs} => f x.1) = f ∘ Subtype.val from rfl, ← List.map_map, List.attach_map_subtype_val]
theorem attachP_v (rs : List Rw) : rs.attach.map (fun x => x.1.v) = rs.map Rw.v := attachP_map Rw.v rs

/-- 'slices.SortFunc(pairs, slices.Compare)'. -/
theorem sortPairs_any (B g n cap : Nat) (rs : List Rw) (w : World) (h : OwnE 24 w B (some ⟨g, 0, none⟩) n cap (rs.map Rw.v)) (hn : 0 < n) (hfit : ∀ r ∈ rs, PFit w r ∧ ∀ p, r.a = some p → p.block ≠ g) :
    Calls Try.prog 20 #[.slice (some ⟨g, 0, none⟩) n cap, .func (.func 21) #[] #[]] w fun e w' =>
      e = .returned (.tuple #[]) ∧ (∃ ss : List Rw, ss.length = n ∧ ss.Perm rs ∧ ss.map (fun s => pairC s.xs) = insSort (rs.map fun s => pairC s.xs) ∧ OwnE 24 w' B (some ⟨g, 0, none⟩) n cap (ss.map Rw.v)) ∧ w.grownBy w' (some g) := by
  obtain ⟨⟨h1, h2⟩, h3, h4⟩ := h
  have hlen : rs.length = n := by simpa using h3
  haveI : Inhabited {r : Rw // r ∈ rs} := ⟨⟨nthR rs 0, by
    have h0 : 0 < rs.length := by omega
    simp [nthR, h0]⟩⟩
  rcases h2 with ⟨hv, _⟩ | ⟨g', cap', cur, hv, hg, hh, hnc, hcm, hcs, htake⟩
  · simp at hv
  · simp at hv
    obtain ⟨rfl, rfl⟩ := hv
    have hal : rs.attach.length = n := by simp [hlen]
    have hH : Holds (fun x : {r : Rw // r ∈ rs} => x.1.v) w g 0 rs.attach.toArray := holds_of_cells hh (by rw [attachP_v, hal]; simpa using htake)
    have hlt : g < w.heap.size := (Array.getElem?_eq_some_iff.1 hh).1
    have eg : ∀ args w, (callFunc 21 args).run Try.prog w = .ok (.enter 21 args) w := by intro args w; go_simp
    have hcmp : CmpReads Try.prog 21 #[] (fun x : {r : Rw // r ∈ rs} => x.1.v) (fun x y => cmpI (pairC x.1.xs) (pairC y.1.xs)) g 0 rs.attach.toArray.size w := by
      intro m os dk _ x y
      have hgr : w.grownBy (sortWorld (fun x : {r : Rw // r ∈ rs} => x.1.v) w g 0 m dk os) (some g) := grownBy_sortedE _ dk
      refine (comparePair_any x.1 y.1 _ ((hfit x.1 x.2).1.kept hgr (hfit x.1 x.2).2) ((hfit y.1 y.2).1.kept hgr (hfit y.1 y.2).2)).mono ?_
      rintro e w' ⟨rfl, rfl⟩
      exact ⟨rfl, 0, rfl⟩
    have hswo : SWO (ltOf fun x y : {r : Rw // r ∈ rs} => cmpI (pairC x.1.xs) (pairC y.1.xs)) := by
      have e : ∀ x y : {r : Rw // r ∈ rs}, ltOf (fun x y : {r : Rw // r ∈ rs} => cmpI (pairC x.1.xs) (pairC y.1.xs)) x y = decide (pairC x.1.xs < pairC y.1.xs) := fun x y => ltOf_cmpI _ _
      exact ⟨fun x => by simp [e], fun x y z h1 h2 => by simp [e] at *; omega, fun x y z h1 h2 => by simp [e] at *; omega⟩
    have hs := Try.slices_SortFunc (fun x : {r : Rw // r ∈ rs} => x.1.v) (fun _ => rfl) (fun x y => cmpI (pairC x.1.xs) (pairC y.1.xs)) hswo 21 #[] g 0 cap rs.attach.toArray w eg hcmp.lays hH hlt (by simp; omega)
    simp only [List.size_toArray, List.length_attach, hlen] at hs
    refine hs.mono ?_
    rintro e w' ⟨rfl, d', q, os, hp, hst, rfl⟩
    rw [← hal] at hp hst
    obtain ⟨p1, p2⟩ := sorted_list hp hst
    have hdl : d'.toList.length = n := by rw [p1.length_eq, hal]
    refine ⟨rfl, ⟨d'.toList.map fun x => x.1, by simp [← hdl], ?_, ?_, ⟨⟨by simp [← hdl], .inr ⟨g, cap, _, rfl, hg, heap_sortedE _ d' hh, hnc, hcm, by simpa [putCells] using hcs, ?_⟩⟩, by simp [← hdl], h4⟩⟩, grownBy_sortedE _ d'⟩
    · have := p1.map fun x => x.1
      rw [List.attach_map_subtype_val] at this
      exact this
    · refine sorted_unique ?_ (insSort_sorted _) (List.Perm.trans ?_ (insSort_perm _).symm)
      · rw [List.map_map, List.pairwise_map]
        refine p2.imp fun {x y} h => ?_
        have h' : ltOf (fun x y : {r : Rw // r ∈ rs} => cmpI (pairC x.1.xs) (pairC y.1.xs)) y x = false := h
        rw [show ltOf (fun x y : {r : Rw // r ∈ rs} => cmpI (pairC x.1.xs) (pairC y.1.xs)) y x = decide (pairC y.1.xs < pairC x.1.xs) from ltOf_cmpI _ _] at h'
        simp at h'
        simpa using h'
      · have := p1.map fun x => pairC x.1.xs
        rw [List.map_map]
        refine List.Perm.trans this ?_
        rw [attachP_map (fun r => pairC r.xs) rs]
    · rw [List.map_map, Nat.mul_one, ← hdl]
      have := take_putCellsE (fun x : {r : Rw // r ∈ rs} => x.1.v) cur d'.toList (by omega)
      rw [toArr] at this
      exact this

theorem insPairsNone_any (a : Option Addr) (cap : Nat) (fv : Value) (w : World) :
    Calls Try.prog 42 #[.slice a 0 cap, .int .i64 0, .int .i64 0, fv] w fun e w' => e = .returned (.tuple #[]) ∧ w' = w := by
  go_enter Try.func42, Try.ntmps42
  go_wp2
  refine wp_loop_rounds 1 ?_
  rw [rounds_succ]
  go_wp2
  all_goals first | (exfalso; omega) | (go_end0; exact ⟨rfl, rfl⟩)

set_option maxHeartbeats 1000000 in
theorem sortPairsNone_any (a : Option Addr) (cap : Nat) (fv : Value) (w : World) :
    Calls Try.prog 20 #[.slice a 0 cap, fv] w fun e w' => e = .returned (.tuple #[]) ∧ w' = w := by
  have hst : ∀ L : Int, Calls Try.prog 34 #[.slice a 0 cap, .int .i64 0, .int .i64 0, .int .i64 L, fv] w fun e w' => e = .returned (.tuple #[]) ∧ w' = w := fun L => by
    go_enter Try.func34, Try.ntmps34
    go_wp2
    refine wp_loop_rounds 1 ?_
    rw [rounds_succ]
    go_wp2_with (go_at_call 42; refine (insPairsNone_any _ _ _ _).mono ?_; rintro e w1 ⟨rfl, rfl⟩)
    refine bodyPost_ret (results_none rfl _ _ _) rfl ⟨rfl, rfl⟩
  go_enter Try.func20, Try.ntmps20
  go_wp2_with fail
  refine (Try.bits_Len 0 w (by omega) (by omega)).mono ?_
  rintro e w1 ⟨rfl, rfl⟩
  go_wp2_with fail
  refine (hst _).mono ?_
  rintro e w1 ⟨rfl, rfl⟩
  go_wp2_with fail
  go_end0
  exact ⟨rfl, rfl⟩

theorem OwnR.row_ne {w : World} {B g n cap : Nat} {rs : List Rw} (h : OwnR w B (some ⟨g, 0, none⟩) n cap rs) {i : Nat} (hi : i < n) {p : Addr} (hp : (nthR rs i).a = some p) : p.block ≠ g := by
  have hz := h.2.2.2.1 i hi
  rw [hp] at hz
  rcases hz.1.2 with ⟨hv, _⟩ | ⟨g1, cap1, cur1, hv1, _, hh1, _⟩
  · simp at hv
  · simp at hv1
    rcases h.1.2 with ⟨hv2, _⟩ | ⟨g2, cap2, cur2, hv2, _, hh2, _⟩
    · simp at hv2
    · simp at hv2
      rw [hv1.1]
      intro e
      simp at e
      rw [e, hv2.1, hh2] at hh1
      simp at hh1
theorem nthR_at {rs : List Rw} {i : Nat} (h : i < rs.length) : nthR rs i = rs[i] := by simp [nthR, h]
theorem sortOwn_any (B : Nat) (a : Option Addr) (n cap : Nat) (rs : List Rw) (w : World) (h : OwnR w B a n cap rs) (hfit : ∀ r ∈ rs, r.xs.length = 2 ∧ 0 ≤ nth r.xs 1 ∧ nth r.xs 1 ≤ 9) :
    Calls Try.prog 20 #[.slice a n cap, .func (.func 21) #[] #[]] w fun e w' =>
      e = .returned (.tuple #[]) ∧ (∃ ss : List Rw, ss.Perm rs ∧ ss.map (fun s => pairC s.xs) = insSort (rs.map fun s => pairC s.xs) ∧ OwnR w' B a n cap ss) ∧ w.grownBy w' (Value.slice a n cap).ownBlock := by
  have hlen := h.len
  by_cases hn : n = 0
  · subst hn
    refine (sortPairsNone_any _ _ _ _).mono ?_
    rintro e w1 ⟨rfl, rfl⟩
    obtain rfl := List.eq_nil_of_length_eq_zero hlen
    exact ⟨rfl, ⟨[], List.Perm.refl _, rfl, h⟩, World.grownBy.refl _ _⟩
  · obtain ⟨g, rfl⟩ : ∃ g, a = some ⟨g, 0, none⟩ := by
      rcases h.1.2 with ⟨hv, hz⟩ | ⟨g2, cap2, cur2, hv2, _⟩
      · simp at hv
        omega
      · simp at hv2
        exact ⟨g2, hv2.1⟩
    have hrow : ∀ r ∈ rs, Own w B r.a r.xs.length r.c r.xs ∧ ∀ p, r.a = some p → p.block ≠ g := fun r hr => by
      obtain ⟨i, hi, rfl⟩ := List.getElem_of_mem hr
      refine ⟨?_, fun p hp => h.row_ne (i := i) (by omega) (by rw [nthR_at hi]; exact hp)⟩
      have := h.2.2.2.1 i (by omega)
      rwa [nthR_at hi] at this
    have hpw : rs.Pairwise (fun r s => ∀ p q, r.a = some p → s.a = some q → p.block ≠ q.block) := List.pairwise_iff_getElem.2 fun i j hi hj hij p q hp hq => h.2.2.2.2 i j p q hij (by omega) (by rw [nthR_at hi]; exact hp) (by rw [nthR_at hj]; exact hq)
    refine (sortPairs_any B g n cap rs w ⟨h.1, by simp [hlen], h.2.2.1⟩ (by omega) fun r hr => ⟨⟨(hrow r hr).1.has, hfit r hr⟩, (hrow r hr).2⟩).mono ?_
    rintro e w1 ⟨rfl, ⟨ss, s1, s2, s3, s4⟩, hgr⟩
    refine ⟨rfl, ⟨ss, s2, s3, s4.1, s1, s4.2.2, fun i hi => ?_, fun i j p q hij hj hp hq => ?_⟩, hgr⟩
    · rw [nthR_at (by omega)]
      obtain ⟨o1, o2⟩ := hrow _ (s2.subset (List.getElem_mem (l := ss) (n := i) (by omega)))
      exact Own.kept o1 hgr (.inr o2)
    · rw [nthR_at (by omega)] at hp hq
      have hps : ss.Pairwise (fun r s => ∀ p q, r.a = some p → s.a = some q → p.block ≠ q.block) := (s2.pairwise_iff (fun {x y} hxy p q hp hq => (hxy q p hq hp).symm)).2 hpw
      exact List.pairwise_iff_getElem.1 hps i j (by omega) (by omega) hij p q hp hq
end Go.Proofs.Ytdemcjciijlbeaa

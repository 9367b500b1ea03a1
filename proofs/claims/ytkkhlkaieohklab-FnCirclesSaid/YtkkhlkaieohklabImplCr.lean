/- The program's circles, by their contracts. -/
import Derived.Test.YtkkhlkaieohklabImplE
import Derived.Test.YtkkhlkaieohklabSpecCr
namespace Go.Proofs.Ytkkhlkaieohklab
open Go.RowKit

set_option maxHeartbeats 800000 in
theorem newCircle_any (p : Nat) (hp : p ≤ 12) (w : World) :
    Calls Try.prog 43 #[.int .i64 p] w fun e w' => ∃ bt bp g, e = .returned (.agg #[.func (.func 67) #[] #[.pointer (some ⟨bt, 0, none⟩)], .func (.func 65) #[] #[.pointer (some ⟨bp, 0, none⟩)]]) ∧
      Street w' w.heap.size bt bp g p (fun _ => false) ∧ Below w.heap.size w w' := by
  have hmf : ∀ (fn : Fn) (first cap : Array Value) (w : World), (Instr.makeFunc fn first cap).run Try.prog w = .ok (.func fn first cap) w := fun _ _ _ _ => rfl
  go_enter Try.func43, Try.ntmps43
  go_wp2_with fail
  refine (newStreet_any p hp _).mono ?_
  rintro e w1 ⟨bt, bp, g, rfl, hst, hb1⟩
  obtain ⟨q1, q2, q3, q4, q5⟩ := two_below hb1
  clear hb1
  go_wp2_with fail
  refine bodyPost_ret (v := .agg #[.func (.func 67) #[] #[.pointer (some ⟨bt, 0, none⟩)], .func (.func 65) #[] #[.pointer (some ⟨w.heap.size, 0, none⟩)]]) (by simp [results, Try.results43, go_sem, q2, q4]) rfl ⟨bt, w.heap.size, g, rfl, ?_, ?_⟩
  · obtain ⟨⟨l1, l2, l3, l4, l5, l6⟩, ne, t, pl, c, f⟩ := hst
    simp at l1 l2 l3
    refine ⟨⟨by omega, by omega, by omega, by simp; omega, by simp; omega, by simp; omega⟩, ⟨ne.1, by omega⟩, ?_, ?_, fun i hi => ?_, fun i => ?_⟩
    · rw [World.cell?_alloc_past _ _ _ (by simp; omega), cell_other (by omega), cell_other (by omega)]; exact t
    · rw [World.cell?_alloc_past _ _ _ (by simp; omega), cell_other (by omega), cell_other (by omega), q1]; rfl
    · rw [World.cell?_alloc_past _ _ _ (by simp; omega), cell_other (by omega), cell_other (by omega)]; exact c i hi
    · rw [World.frozen?_alloc_past _ _ _ (by simp; omega), World.frozen?_setCell, World.frozen?_setCell]; exact f i
  · exact ((q5.setCell (by simp) _).setCell (by simp) _).alloc (by simp; omega) _

set_option maxHeartbeats 400000 in
theorem cnextFn_any (B bt bp g p x : Nat) (tk : Nat → Bool) (w : World) (h : Street w B bt bp g p tk) (hx : x < p) (hp : p ≤ 12) :
    Calls Try.prog 65 #[.int .i64 (x : Int), .pointer (some ⟨bp, 0, none⟩)] w fun e w' => e = .returned (.tuple #[.int .i64 (((x + 1) % p : Nat) : Int), .bool true]) ∧ Quiet w w' := by
  have h1 := h.places
  have HE : Hid (((x : Int) + 1) % (p : Int) = (((x + 1) % p : Nat) : Int)) := hid (by rw [← emod_nat]; rfl)
  have hpz : ¬ (p : Int) = 0 := by omega
  go_enter Try.func65, Try.ntmps65
  go_wp2_with fail
  go_ret2
  rw [← HE.out]
  exact ⟨rfl, Quiet.rfl' _⟩

/-- What 'park' keeps on a circle, behind k cars. -/
structure CParks (w0 wr : World) (bt bp g p B1 : Nat) (xs : List Int) (k : Nat) (a : Option Addr) (cap : Nat) : Prop where
  tk : ∃ tk, Street wr w0.heap.size bt bp g p tk ∧ ∀ z : Nat, z < p → tk z = hasB (cdrive p (xs.take k)) z
  lt : bt < B1 ∧ bp < B1 ∧ g < B1 ∧ w0.heap.size ≤ B1 ∧ B1 < wr.heap.size
  own : Own wr (B1 + 1) a k cap (cdrive p (xs.take k))
  c1 : wr.cell? ⟨B1, 0, none⟩ = some (.func (.func 67) #[] #[.pointer (some ⟨bt, 0, none⟩)])
  c2 : wr.cell? ⟨B1, 1, none⟩ = some (.func (.func 65) #[] #[.pointer (some ⟨bp, 0, none⟩)])
  below : Below w0.heap.size w0 wr

theorem CParks.took {w0 wr w2 : World} {bt bp g p B1 : Nat} {xs : List Int} {k : Nat} {a : Option Addr} {cap : Nat} {tk : Nat → Bool} (P : CParks w0 wr bt bp g p B1 xs k a cap)
    (hst : Street w2 w0.heap.size bt bp g p tk) (hg : wr.grownBy w2 (some g)) (htk : ∀ z : Nat, z < p → tk z = hasB (cdrive p (xs.take k)) z) : CParks w0 w2 bt bp g p B1 xs k a cap := by
  obtain ⟨l1, l2, l3, l4, l5⟩ := P.lt
  have hs := hg.size
  have hb : Below w0.heap.size wr w2 := below_grown hg (by omega) (by intro j hj; cases hj; exact hst.lt.2.2.1)
  exact ⟨⟨tk, hst, htk⟩, ⟨l1, l2, l3, l4, by omega⟩, P.own.kept hg (.inl (by omega)), grown_cell hg P.c1 (by omega), grown_cell hg P.c2 (by omega), P.below.trans hb⟩

theorem CParks.quiet {w0 wr w2 : World} {bt bp g p B1 : Nat} {xs : List Int} {k : Nat} {a : Option Addr} {cap : Nat} (P : CParks w0 wr bt bp g p B1 xs k a cap) (hq : Quiet wr w2) : CParks w0 w2 bt bp g p B1 xs k a cap := by
  obtain ⟨j, rfl⟩ := hq
  obtain ⟨⟨tk, hst, htk⟩, hl, ho, c1, c2, hb⟩ := P
  exact ⟨⟨tk, ⟨hst.lt, hst.ne, hst.taken, hst.places, hst.cells, hst.free⟩, htk⟩, hl, ho, c1, c2, below_drewN hb _⟩

theorem CParks.stands {w0 wr w2 w3 : World} {bt bp g p B1 : Nat} {xs : List Int} {k : Nat} {a a2 : Option Addr} {cap cap2 : Nat} {tk : Nat → Bool} {y : Nat} (P : CParks w0 wr bt bp g p B1 xs k a cap)
    (hst : Street w2 w0.heap.size bt bp g p tk) (hg : wr.grownBy w2 (some g)) (htk : ∀ z : Nat, z < p → tk z = if z = y then true else hasB (cdrive p (xs.take k)) z)
    (hd : cdrive p (xs.take (k + 1)) = cdrive p (xs.take k) ++ [(y : Int)]) (hown : Own w3 (B1 + 1) a2 (k + 1) cap2 (cdrive p (xs.take k) ++ [(y : Int)])) (hb3 : Below (B1 + 1) w2 w3) : CParks w0 w3 bt bp g p B1 xs (k + 1) a2 cap2 := by
  obtain ⟨l1, l2, l3, l4, l5⟩ := P.lt
  have hs := hg.size
  have hs3 := hb3.size
  have hb : Below w0.heap.size wr w2 := below_grown hg (by omega) (by intro j hj; cases hj; exact hst.lt.2.2.1)
  refine ⟨⟨tk, ⟨⟨hst.lt.1, hst.lt.2.1, hst.lt.2.2.1, by omega, by omega, by omega⟩, hst.ne, ?_, ?_, fun i hi => ?_, fun i => ?_⟩, fun z hz => ?_⟩, ⟨l1, l2, l3, l4, by omega⟩, by rw [hd]; exact hown, ?_, ?_, (P.below.trans hb).trans (hb3.mono (by omega))⟩
  · rw [hb3.cell (p := ⟨bt, 0, none⟩) (by simp; omega)]; exact hst.taken
  · rw [hb3.cell (p := ⟨bp, 0, none⟩) (by simp; omega)]; exact hst.places
  · rw [hb3.cell (p := ⟨g, i, none⟩) (by simp; omega)]; exact hst.cells i hi
  · rw [hb3.frozen (p := ⟨g, i, none⟩) (by simp; omega)]; exact hst.free i
  · rw [htk z hz, hd]
    by_cases e : z = y
    · subst e; simp [hasB]
    · have e' : ¬ (z : Int) = (y : Int) := by omega
      simp [hasB, e, e']
  · rw [hb3.cell (p := ⟨B1, 0, none⟩) (by simp)]; exact grown_cell hg P.c1 (by omega)
  · rw [hb3.cell (p := ⟨B1, 1, none⟩) (by simp)]; exact grown_cell hg P.c2 (by omega)

set_option maxHeartbeats 2000000 in
theorem parkCircle_any (w0 : World) (bt bp g p : Nat) (a : Option Addr) (n cap : Nat) (xs : List Int) (w : World) (h : Has w0 a n cap xs) (hb0 : Below w0.heap.size w0 w) (hst : Street w w0.heap.size bt bp g p (fun _ => false))
    (hnp : n ≤ p) (h8 : n ≤ 8) (hp0 : 0 < p) (hp : p ≤ 12) (hge : ∀ i, i < n → 0 ≤ nth xs i ∧ nth xs i ≤ (p : Int) - 1) :
    Calls Try.prog 42 #[.slice a n cap, .agg #[.func (.func 67) #[] #[.pointer (some ⟨bt, 0, none⟩)], .func (.func 65) #[] #[.pointer (some ⟨bp, 0, none⟩)]]] w (PostInts w0 (cdrive p xs, true)) := by
  have HL := hid h.len
  have hsz := hb0.size
  obtain ⟨l1, l2, l3, l4, l5, l6⟩ := hst.lt
  go_enter Try.func42, Try.ntmps42
  go_wp2
  go_step3
  go_wp2_with (at_make; refine wpList_make_room _ rfl _ _ rfl _ rfl rfl (by omega) ?_; intro a1 cap1 w1 hown1 hb1)
  go_step3
  go_wp2_with fail
  have hbox : Below w.heap.size w (w.alloc (.cells #[.func (.func 67) #[] #[.pointer (some ⟨bt, 0, none⟩)], .func (.func 65) #[] #[.pointer (some ⟨bp, 0, none⟩)]] 58)) := (Below.refl _ _).alloc (Nat.le_refl _) _
  have P0 : CParks w0 w1 bt bp g p w.heap.size xs 0 a1 cap1 := by
    have hs1 := hb1.size
    simp at hs1
    refine ⟨⟨fun _ => false, (hst.below hbox (Nat.le_refl _)).below hb1 (Nat.le_refl _), fun z _ => by simp [hasB, cdrive]⟩, ⟨l4, l5, l6, hsz, by omega⟩, hown1.mono (by simp), ?_, ?_, (hb0.trans (hbox.mono hsz)).trans (hb1.mono (by simp; omega))⟩
    · rw [hb1.cell (p := ⟨w.heap.size, 0, none⟩) (by simp), World.cell?_alloc_at _ _ _ _ rfl]; rfl
    · rw [hb1.cell (p := ⟨w.heap.size, 1, none⟩) (by simp), World.cell?_alloc_at _ _ _ _ rfl]; rfl
  clear hown1 hb1 hbox hst
  go_loopg [6, 17] n (fun q s i wr => ∃ (k : Nat) (a' : Option Addr) (cap' : Nat), k + q = n ∧ i = .int .i64 k ∧ s = .slice a' k cap' ∧ CParks w0 wr bt bp g p w.heap.size xs k a' cap')
  case atStart => exact ⟨0, a1, cap1, by omega, rfl, rfl, P0⟩
  case round =>
    obtain ⟨k, a', cap', hkq, rfl, rfl, P⟩ := hrel
    clear P0
    cases gk with
    | zero =>
      obtain rfl : k = n := by omega
      go_wp2_with fail
      rw [Exit.noGoto_ret]
      go_ret2
      have ho := P.own
      rw [List.take_of_length_le (by rw [HL.out]; omega)] at ho
      exact postInts rfl (ho.mono (by have := P.lt; omega)) P.below
    | succ q =>
      have hlt : k < n := by omega
      obtain ⟨b, off, rfl, hbb, hc⟩ := h.2.2.2.2 (by omega)
      have hck : wr.cell? ⟨b, off + k, none⟩ = some (.int .i64 (nth xs k)) := by rw [P.below.cell (p := ⟨b, off + k, none⟩) hbb]; exact hc k hlt
      obtain ⟨hx0, hx1⟩ := hge k hlt
      have HS := hid (cdrive_succ (p := (p : Int)) (xs := xs) (k := k) (by rw [HL.out]; omega))
      clear hc hge
      obtain ⟨x, hx⟩ : ∃ x : Nat, nth xs k = (x : Int) := ⟨_, (Int.toNat_of_nonneg hx0).symm⟩
      rw [hx] at hck hx1 hx0 HS
      have HLD : Hid ((cdrive p (xs.take k)).length < p) := hid (by rw [length_cdrive]; simp [HL.out]; omega)
      have hxp : x < p := by omega
      have HR0 := hid (CRuns.zero (cdrive p (xs.take k)) p x)
      have HX0 : Hid ((x + 0) % p = x) := hid (by rw [Nat.add_zero, Nat.mod_eq_of_lt hxp])
      clear hx
      go_wp2_with fail
      go_loopg [9] p (fun q2 pl wr2 => ∃ (j y : Nat), pl = .int .i64 (y : Int) ∧ y < p ∧ j + q2 = p ∧ 0 < q2 ∧ CParks w0 wr2 bt bp g p w.heap.size xs k a' cap' ∧ Hid ((x + j) % p = y) ∧ Hid (CRuns (cdrive p (xs.take k)) p x j))
      case atStart => exact ⟨0, x, rfl, hxp, by omega, hp0, P, HX0, HR0⟩
      case round =>
        clear HX0 HR0
        obtain ⟨j, y, rfl, hyp, hjq, hq0, P2, HY, HR⟩ := hrel
        obtain ⟨⟨tk, hst2, htk⟩, hl2, ho2, c1, c2, hb2⟩ := id P2
        have HTK := hid htk
        clear htk hck
        by_cases hm : hasB (cdrive p (xs.take k)) y = true
        · have hty : tk y = true := by rw [HTK.out y hyp]; exact hm
          have HR1 : Hid (CRuns (cdrive p (xs.take k)) p x (j + 1)) := hid (HR.out.step (by rw [emod_nat, HY.out]; exact hasB_iff.1 hm))
          have hjp := crun_free HR1.out HLD.out
          have HY1 : Hid ((x + (j + 1)) % p = (y + 1) % p) := hid (by rw [← HY.out, Nat.mod_add_mod, Nat.add_assoc])
          have hlt3 := Nat.mod_lt (y + 1) hp0
          clear hm
          go_wp2_with fail
          refine (take_any _ _ _ _ _ _ _ _ hst2 hyp).mono ?_
          rintro e w2 ⟨rfl, hst3, hg3⟩
          rw [hty]
          have P3 := P2.took hst3 hg3 (fun z hz => by
            show (if z = y then true else tk z) = _
            rw [← HTK.out z hz]
            split
            · subst_vars; exact hty.symm
            · rfl)
          clear P2 P hst2 c1 c2 hb2 hg3
          have c1 := P3.c1
          have c2 := P3.c2
          obtain ⟨tk3, hst3, htk3⟩ := P3.tk
          go_wp2_with fail
          refine (cnextFn_any _ _ _ _ _ _ _ _ hst3 hyp hp).mono ?_
          rintro e w3 ⟨rfl, hq3⟩
          have P4 := P3.quiet hq3
          clear P3 hst3 c1 c2 hq3 htk3
          generalize (y + 1) % p = y1 at *
          go_wp2_with fail
          go_roundg (gk - 1)
          case rel => exact ⟨j + 1, y1, rfl, hlt3, by omega, by omega, P4, HY1, HR1⟩
          case measure => omega
        · have hty : tk y = false := by rw [HTK.out y hyp]; exact Bool.eq_false_iff.2 hm
          have HD : Hid (cdrive p (xs.take (k + 1)) = cdrive p (xs.take k) ++ [(y : Int)]) := hid (by
            rw [HS.out, cplace_of HR.out (by rw [emod_nat, HY.out]; exact fun e => hm (hasB_iff.2 e)) (by omega) (by omega) (by omega), emod_nat, HY.out])
          clear hm
          go_wp2_with fail
          refine (take_any _ _ _ _ _ _ _ _ hst2 hyp).mono ?_
          rintro e w2 ⟨rfl, hst3, hg3⟩
          rw [hty]
          have ho3 := ho2.kept hg3 (.inl (by omega))
          have hs3 := hg3.size
          go_wp2_with (at_builtin; refine wpList_append_int _ rfl _ _ rfl (w.heap.size + 1) _ _ _ _ _ rfl rfl ho3 (by omega) (by omega) ?_; intro a3 cap3 w3 hown3 hb3)
          go_roundg q
          case rel =>
            exact ⟨k + 1, a3, cap3, by omega, by go_num, rfl, P2.stands hst3 hg3 (fun z hz => by
              show (if z = y then true else tk z) = _
              rw [HTK.out z hz]) HD.out hown3 hb3⟩
          case measure => omega

set_option maxHeartbeats 800000 in
theorem driveCircle_any (a : Option Addr) (n cap : Nat) (xs : List Int) (p : Int) (w : World) (h : Has w a n cap xs) :
    Calls Try.prog 17 #[.slice a n cap, .int .i64 p] w (PostInts w (circleOf xs p)) := by
  by_cases hg : good xs p = true
  · obtain ⟨q, rfl⟩ : ∃ q : Nat, p = (q : Int) := ⟨p.toNat, by have := (good_iff.1 hg).1; omega⟩
    obtain ⟨g1, g2, g3, g4⟩ := good_nth' hg h.len
    by_cases hle : n ≤ q
    · have HR := hid (circleOf_yes hg h.len hle)
      have HG := hid hg
      clear hg
      go_enter Try.func17, Try.ntmps17
      go_wp2_with (first | (go_at_call 36; refine (areFavourites_any _ _ _ _ _ _ h).mono ?_; rintro e w' ⟨rfl, rfl⟩; rw [HG.out]) | (go_at_call 43; refine (newCircle_any q (by omega) _).mono ?_; rintro e w1 ⟨bt, bp, g, rfl, hst, hb1⟩))
      refine (parkCircle_any _ _ _ _ _ _ _ _ _ _ h hb1 hst hle g1 (by omega) g3 g4).mono ?_
      rintro e w2 ⟨a2, n2, cap2, rfl, hown2, hb2⟩
      go_wp2_with fail
      go_ret2
      exact postInts HR.out hown2 hb2
    · have HR := hid (circleOf_no2 (p := q) h.len (by omega))
      have HG := hid hg
      clear hg
      go_enter Try.func17, Try.ntmps17
      go_wp2_with (go_at_call 36; refine (areFavourites_any _ _ _ _ _ _ h).mono ?_; rintro e w' ⟨rfl, rfl⟩; rw [HG.out])
      go_ret2
      exact postInts_no HR.out (Below.refl _ _)
  · have HR := hid (circleOf_no1 hg)
    have HG := hid hg
    clear hg
    go_enter Try.func17, Try.ntmps17
    go_wp2_with (go_at_call 36; refine (areFavourites_any _ _ _ _ _ _ h).mono ?_; rintro e w' ⟨rfl, rfl⟩; rw [Bool.eq_false_iff.2 HG.out])
    go_ret2
    exact postInts_no HR.out (Below.refl _ _)

theorem total_le {xs : List Int} {p : Int} (h : ∀ y ∈ xs, 0 ≤ y ∧ y < p) : ∀ k, k ≤ xs.length → 0 ≤ total (xs.take k) ∧ total (xs.take k) ≤ k * p
  | 0, _ => by simp [total]
  | k + 1, hk => by
    have ih := total_le h k (by omega)
    have hy := h _ (nth_mem (xs := xs) (i := k) (by omega))
    rw [total_succ (by omega), show ((k + 1 : Nat) : Int) = (k : Int) + 1 by omega, Int.add_mul]
    omega
theorem circle_free {xs : List Int} {n : Nat} (h8 : n ≤ 8) (hn : xs.length = n) (hg : circB xs = true) : circleOf xs ((n : Int) + 1) = (cdrive ((n : Int) + 1) xs, true) := by
  subst hn
  have := circ_good h8
  rw [hg] at this
  simp [circleOf, ← this, show (xs.length : Int) ≤ (xs.length : Int) + 1 by omega]
theorem circle_nofree {xs : List Int} {n : Nat} (hn : xs.length = n) (hg : ¬ circB xs = true) : circleOf xs ((n : Int) + 1) = ([], false) := by
  subst hn
  have : ¬ good xs ((xs.length : Int) + 1) = true := by
    intro h
    apply hg
    rw [circ_good (good_iff.1 h).2.1]
    exact h
  simp [circleOf, this]

set_option maxHeartbeats 1600000 in
theorem freeOnCircle_any (a : Option Addr) (n cap : Nat) (xs : List Int) (w : World) (h : Has w a n cap xs) :
    Calls Try.prog 9 #[.slice a n cap] w (PostInt w (freeOf xs)) := by
  have hle := h.le
  by_cases hg : circB xs = true
  · obtain ⟨h8, hge⟩ := circ_nth hg h.len
    have HR : Hid (freeOf xs = (cfree xs, true)) := hid (by simp [freeOf, hg])
    have HC := hid (circle_free h8 h.len hg)
    obtain ⟨-, -, -, -, f5⟩ := cfree_spec hg
    rw [h.len] at f5
    have hb := circ_bounds hg
    have hok := (cdrive_ok hb xs.length (Nat.le_refl _) (by omega)).2
    rw [List.take_length, h.len] at hok
    have hlc : (cdrive ((n : Int) + 1) xs).length = n := by rw [length_cdrive]; exact h.len
    have HTL := hid (total_le hok)
    have HOK : Hid (∀ i, i < n → 0 ≤ nth (cdrive ((n : Int) + 1) xs) i ∧ nth (cdrive ((n : Int) + 1) xs) i < (n : Int) + 1) := hid (fun i hi => hok _ (nth_mem (by omega)))
    have HF : Hid ((n + 1 : Int) * n / 2 - total (cdrive ((n : Int) + 1) xs) = cfree xs) := hid (by omega)
    have HLC := hid hlc
    have hsq : ((n : Int) + 1) * (n : Int) ≤ 72 ∧ 0 ≤ ((n : Int) + 1) * (n : Int) := by
      have := Nat.mul_le_mul (show n + 1 ≤ 9 by omega) h8
      rw [show (n : Int) + 1 = ((n + 1 : Nat) : Int) by omega, ← Int.natCast_mul]
      omega
    obtain ⟨sq1, sq0⟩ := hsq
    clear hg f5 hb hok hlc hge
    go_enter Try.func9, Try.ntmps9
    go_wp2_with fail
    refine (driveCircle_any _ _ _ _ _ _ h).mono ?_
    rw [HC.out]
    rintro e w2 ⟨a2, n2, cap2, rfl, hown2, hb2⟩
    obtain rfl : n = n2 := by have := hown2.len; rw [HLC.out] at this; exact this
    have hh := hown2.has
    obtain ⟨-, -, -, -, h4⟩ := hh
    have HH := hid h4
    generalize hcd : cdrive ((n : Int) + 1) xs = ts at *
    clear hcd h4
    go_wp2_with fail
    go_loop [7, 28] (fun c i => ∃ k : Nat, k ≤ n ∧ i = .int .i64 (k : Int) ∧ c = .int .i64 (((n : Int) + 1) * (n : Int) / 2 - total (ts.take k))) (fun _ i => n - (intOf i).toNat)
    case atStart => exact ⟨0, Nat.zero_le _, rfl, by simp [total]⟩
    case round =>
      obtain ⟨k, hk, rfl, rfl⟩ := hrel
      have ht := HTL.out k (by rw [HLC.out]; omega)
      have ht2 : (k : Int) * ((n : Int) + 1) ≤ 72 := by
        have := Nat.mul_le_mul (show k ≤ 8 by omega) (show n + 1 ≤ 9 by omega)
        rw [show (n : Int) + 1 = ((n + 1 : Nat) : Int) by omega, ← Int.natCast_mul]
        omega
      obtain ⟨t0, t1⟩ := ht
      have t3 : total (ts.take k) ≤ 72 := by omega
      by_cases hlt : k < n
      · obtain ⟨b, off, rfl, hbb, hc⟩ := HH.out (by omega)
        have hck := hc k hlt
        obtain ⟨y0, y1⟩ := HOK.out k hlt
        have HS := hid (total_succ (xs := ts) (k := k) (by rw [HLC.out]; omega))
        clear hc ht2 t1
        go_wp2_with fail
        go_round
        case rel => exact ⟨k + 1, by omega, by go_num, congrArg (Value.int .i64) (by rw [HS.out]; omega)⟩
        case measure => simp [intOf]; omega
      · obtain rfl : n = k := by omega
        have HE : Hid (((n : Int) + 1) * (n : Int) / 2 - total (ts.take n) = cfree xs) := hid (by rw [List.take_of_length_le (by rw [HLC.out]; omega)]; exact HF.out)
        clear ht2 t1
        go_wp2_with fail
        go_ret2
        exact postInt (by rw [HR.out, HE.out]) hb2
  · have HR : Hid (freeOf xs = (0, false)) := hid (by simp [freeOf, hg])
    have HC := hid (circle_nofree h.len hg)
    clear hg
    go_enter Try.func9, Try.ntmps9
    go_wp2_with fail
    refine (driveCircle_any _ _ _ _ _ _ h).mono ?_
    rw [HC.out]
    rintro e w2 ⟨a2, n2, cap2, rfl, hown2, hb2⟩
    go_wp2_with fail
    go_ret2
    exact postInt HR.out hb2
end Go.Proofs.Ytkkhlkaieohklab

/- The program's drive: 'park' over a street of closures. -/
import Derived.Test.YtakadjhbomggbabImplA
import Derived.Deep.LoopGhost
namespace Go.Proofs.Ytakadjhbomggbab
open Go.RowKit

/-- What parking comes to. -/
def parked (xs : List Int) (p : Int) : List Int × Bool := if allPark p xs then (drive p xs, true) else ([], false)

/-- What 'park' keeps, round by round, behind k cars: the street, the places of the cars (block from B1 + 1 on), the copy of the street's functions (block B1). -/
structure Parks (w0 wr : World) (bt bp g p B1 : Nat) (xs : List Int) (k : Nat) (a : Option Addr) (cap : Nat) : Prop where
  tk : ∃ tk, Street wr w0.heap.size bt bp g p tk ∧ ∀ z : Nat, z < p → tk z = hasB (drive p (xs.take k)) z
  lt : bt < B1 ∧ bp < B1 ∧ g < B1 ∧ w0.heap.size ≤ B1 ∧ B1 < wr.heap.size
  own : Own wr (B1 + 1) a k cap (drive p (xs.take k))
  ok : (-1 : Int) ∉ drive p (xs.take k)
  c1 : wr.cell? ⟨B1, 0, none⟩ = some (.func (.func 105) #[] #[.pointer (some ⟨bt, 0, none⟩)])
  c2 : wr.cell? ⟨B1, 1, none⟩ = some (.func (.func 106) #[] #[.pointer (some ⟨bp, 0, none⟩)])
  below : Below w0.heap.size w0 wr

theorem grown_cell {w w' : World} {g b i : Nat} {v : Value} (hg : w.grownBy w' (some g)) (hc : w.cell? ⟨b, i, none⟩ = some v) (hne : b ≠ g) : w'.cell? ⟨b, i, none⟩ = some v := hg.cell hc (by simpa using hne)

theorem grown_trans {w w' w'' : World} {g : Option Nat} (h : w.grownBy w' g) (h' : w'.grownBy w'' g) : w.grownBy w'' g :=
  ⟨h'.os.trans h.os, h'.tape.trans h.tape, h'.output.trans h.output, Nat.le_trans h.size h'.size, fun j hj hne => (h'.block j (Nat.lt_of_lt_of_le hj h.size) hne).trans (h.block j hj hne)⟩

/-- A place that was taken is asked for. -/
theorem Parks.took {w0 wr w2 : World} {bt bp g p B1 : Nat} {xs : List Int} {k : Nat} {a : Option Addr} {cap : Nat} {tk : Nat → Bool} (P : Parks w0 wr bt bp g p B1 xs k a cap)
    (hst : Street w2 w0.heap.size bt bp g p tk) (hg : wr.grownBy w2 (some g)) (htk : ∀ z : Nat, z < p → tk z = hasB (drive p (xs.take k)) z) : Parks w0 w2 bt bp g p B1 xs k a cap := by
  obtain ⟨l1, l2, l3, l4, l5⟩ := P.lt
  have hs := hg.size
  have hb : Below w0.heap.size wr w2 := below_grown hg (by omega) (by intro j hj; cases hj; exact hst.lt.2.2.1)
  exact ⟨⟨tk, hst, htk⟩, ⟨l1, l2, l3, l4, by omega⟩, P.own.kept hg (.inl (by omega)), P.ok, grown_cell hg P.c1 (by omega), grown_cell hg P.c2 (by omega), P.below.trans hb⟩

theorem Parks.quiet {w0 wr w2 : World} {bt bp g p B1 : Nat} {xs : List Int} {k : Nat} {a : Option Addr} {cap : Nat} (P : Parks w0 wr bt bp g p B1 xs k a cap) (hq : Quiet wr w2) : Parks w0 w2 bt bp g p B1 xs k a cap := by
  obtain ⟨j, rfl⟩ := hq
  obtain ⟨⟨tk, hst, htk⟩, hl, ho, hk, c1, c2, hb⟩ := P
  exact ⟨⟨tk, ⟨hst.lt, hst.ne, hst.taken, hst.places, hst.cells, hst.free⟩, htk⟩, hl, ho, hk, c1, c2, below_drewN hb _⟩

/-- A free place is taken, and the car stands there. -/
theorem Parks.stands {w0 wr w2 w3 : World} {bt bp g p B1 : Nat} {xs : List Int} {k : Nat} {a a2 : Option Addr} {cap cap2 : Nat} {tk : Nat → Bool} {y : Nat} (P : Parks w0 wr bt bp g p B1 xs k a cap)
    (hst : Street w2 w0.heap.size bt bp g p tk) (hg : wr.grownBy w2 (some g)) (htk : ∀ z : Nat, z < p → tk z = if z = y then true else hasB (drive p (xs.take k)) z)
    (hd : drive p (xs.take (k + 1)) = drive p (xs.take k) ++ [(y : Int)]) (hown : Own w3 (B1 + 1) a2 (k + 1) cap2 (drive p (xs.take k) ++ [(y : Int)])) (hb3 : Below (B1 + 1) w2 w3) : Parks w0 w3 bt bp g p B1 xs (k + 1) a2 cap2 := by
  obtain ⟨l1, l2, l3, l4, l5⟩ := P.lt
  have hs := hg.size
  have hs3 := hb3.size
  have hb : Below w0.heap.size wr w2 := below_grown hg (by omega) (by intro j hj; cases hj; exact hst.lt.2.2.1)
  refine ⟨⟨tk, ⟨⟨hst.lt.1, hst.lt.2.1, hst.lt.2.2.1, by omega, by omega, by omega⟩, hst.ne, ?_, ?_, fun i hi => ?_, fun i => ?_⟩, fun z hz => ?_⟩, ⟨l1, l2, l3, l4, by omega⟩, by rw [hd]; exact hown, ?_, ?_, ?_, (P.below.trans hb).trans (hb3.mono (by omega))⟩
  · rw [hb3.cell (p := ⟨bt, 0, none⟩) (by simp; omega)]; exact hst.taken
  · rw [hb3.cell (p := ⟨bp, 0, none⟩) (by simp; omega)]; exact hst.places
  · rw [hb3.cell (p := ⟨g, i, none⟩) (by simp; omega)]; exact hst.cells i hi
  · rw [hb3.frozen (p := ⟨g, i, none⟩) (by simp; omega)]; exact hst.free i
  · rw [htk z hz, hd]
    by_cases e : z = y
    · subst e; simp [hasB]
    · have e' : ¬ (z : Int) = (y : Int) := by omega
      simp [hasB, e, e']
  · rw [hd]
    intro hm
    simp only [List.mem_append, List.mem_singleton] at hm
    rcases hm with hm | hm
    · exact P.ok hm
    · omega
  · rw [hb3.cell (p := ⟨B1, 0, none⟩) (by simp)]; exact grown_cell hg P.c1 (by omega)
  · rw [hb3.cell (p := ⟨B1, 1, none⟩) (by simp)]; exact grown_cell hg P.c2 (by omega)

set_option maxHeartbeats 2000000 in
theorem park_any (w0 : World) (bt bp g p : Nat) (a : Option Addr) (n cap : Nat) (xs : List Int) (w : World) (h : Has w0 a n cap xs) (hb0 : Below w0.heap.size w0 w) (hst : Street w w0.heap.size bt bp g p (fun _ => false))
    (h8 : n ≤ 8) (hp : p ≤ 12) (hge : ∀ i, i < n → 0 ≤ nth xs i ∧ nth xs i ≤ (p : Int) - 1) :
    Calls Try.prog 93 #[.slice a n cap, .agg #[.func (.func 105) #[] #[.pointer (some ⟨bt, 0, none⟩)], .func (.func 106) #[] #[.pointer (some ⟨bp, 0, none⟩)]]] w (PostInts w0 (parked xs p)) := by
  have HL := hid h.len
  have hsz := hb0.size
  obtain ⟨l1, l2, l3, l4, l5, l6⟩ := hst.lt
  go_enter Try.func93, Try.ntmps93
  go_wp2
  go_step3
  go_wp2_with (at_make; refine wpList_make_room _ rfl _ _ rfl _ rfl rfl (by omega) ?_; intro a1 cap1 w1 hown1 hb1)
  go_step3
  go_wp2_with fail
  have hbox : Below w.heap.size w (w.alloc (.cells #[.func (.func 105) #[] #[.pointer (some ⟨bt, 0, none⟩)], .func (.func 106) #[] #[.pointer (some ⟨bp, 0, none⟩)]] 103)) := (Below.refl _ _).alloc (Nat.le_refl _) _
  have P0 : Parks w0 w1 bt bp g p w.heap.size xs 0 a1 cap1 := by
    have hs1 := hb1.size
    simp at hs1
    refine ⟨⟨fun _ => false, (hst.below hbox (Nat.le_refl _)).below hb1 (Nat.le_refl _), fun z _ => by simp [hasB, drive]⟩, ⟨l4, l5, l6, hsz, by omega⟩, hown1.mono (by simp), by simp [drive], ?_, ?_, (hb0.trans (hbox.mono hsz)).trans (hb1.mono (by simp; omega))⟩
    · rw [hb1.cell (p := ⟨w.heap.size, 0, none⟩) (by simp), World.cell?_alloc_at _ _ _ _ rfl]; rfl
    · rw [hb1.cell (p := ⟨w.heap.size, 1, none⟩) (by simp), World.cell?_alloc_at _ _ _ _ rfl]; rfl
  clear hown1 hb1 hbox hst
  go_loopg [6, 17] n (fun q s i wr => ∃ (k : Nat) (a' : Option Addr) (cap' : Nat), k + q = n ∧ i = .int .i64 k ∧ s = .slice a' k cap' ∧ Parks w0 wr bt bp g p w.heap.size xs k a' cap')
  case atStart => exact ⟨0, a1, cap1, by omega, rfl, rfl, P0⟩
  case round =>
    obtain ⟨k, a', cap', hkq, rfl, rfl, P⟩ := hrel
    clear P0
    cases gk with
    | zero =>
      obtain rfl : k = n := by omega
      have HR : Hid (parked xs p = (drive p xs, true)) := hid (by
        have hok := P.ok
        rw [List.take_of_length_le (by rw [HL.out]; omega)] at hok
        simp only [parked, if_pos (allPark_iff.2 hok)])
      go_wp2_with fail
      rw [Exit.noGoto_ret]
      go_ret2
      have ho := P.own
      rw [List.take_of_length_le (by rw [HL.out]; omega)] at ho
      exact postInts HR.out (ho.mono (by have := P.lt; omega)) P.below
    | succ q =>
      have hlt : k < n := by omega
      obtain ⟨b, off, rfl, hbb, hc⟩ := h.2.2.2.2 (by omega)
      have hck : wr.cell? ⟨b, off + k, none⟩ = some (.int .i64 (nth xs k)) := by rw [P.below.cell (p := ⟨b, off + k, none⟩) hbb]; exact hc k hlt
      obtain ⟨hx0, hx1⟩ := hge k hlt
      have HS := hid (drive_succ (p := p) (xs := xs) (k := k) (by rw [HL.out]; omega))
      clear hc hge
      obtain ⟨x, hx⟩ : ∃ x : Nat, nth xs k = (x : Int) := ⟨_, (Int.toNat_of_nonneg hx0).symm⟩
      rw [hx] at hck hx1 hx0 HS
      have HX := hid hx
      clear hx
      go_wp2_with fail
      go_loopg [9] (p - x) (fun q2 pl wr2 => ∃ y : Nat, pl = .int .i64 y ∧ y + q2 = p ∧ 0 < q2 ∧ Parks w0 wr2 bt bp g p w.heap.size xs k a' cap' ∧ Runs (drive p (xs.take k)) p x y)
      case atStart => exact ⟨x, rfl, by omega, by omega, P, Runs.refl _ _ _⟩
      case round =>
        obtain ⟨y, rfl, hyq, hq0, P2, hrun⟩ := hrel
        obtain ⟨⟨tk, hst2, htk⟩, hl2, ho2, hk2, c1, c2, hb2⟩ := id P2
        have hyp : y < p := by omega
        have HTK := hid htk
        clear htk hck
        by_cases hm : hasB (drive p (xs.take k)) y = true
        · have hty : tk y = true := by rw [HTK.out y hyp]; exact hm
          have HM := hid hm
          clear hm
          go_wp2_with fail
          refine (take_any _ _ _ _ _ _ _ _ hst2 hyp).mono ?_
          rintro e w2 ⟨rfl, hst3, hg3⟩
          rw [hty]
          have P3 := P2.took hst3 hg3 (fun z hz => by
            show (if z = y then true else tk z) = _
            rw [← HTK.out z hz]
            split
            · subst_vars; exact hty.symm
            · rfl)
          clear P2 P hst2 c1 c2 hb2 hg3
          have c1 := P3.c1
          have c2 := P3.c2
          obtain ⟨tk3, hst3, htk3⟩ := P3.tk
          go_wp2_with fail
          refine (next_any _ _ _ _ _ _ _ _ hst3 hyp hp).mono ?_
          rintro e w3 ⟨rfl, hq3⟩
          have P4 := P3.quiet hq3
          clear P3 hst3 c1 c2 hq3 htk3
          by_cases hlast : y + 1 < p
          · have hd : decide ((y : Int) + 1 < (p : Int)) = true := by simp; omega
            rw [hd]
            clear hd
            go_wp2_with fail
            go_roundg (gk - 1)
            case rel => exact ⟨y + 1, by go_num, by omega, by omega, P4, hrun.step (by omega) (hasB_iff.1 HM.out)⟩
            case measure => omega
          · have hd : decide ((y : Int) + 1 < (p : Int)) = false := by simp; omega
            have HF : Hid (parked xs p = ([], false)) := hid (by
              have h1 := hrun.step (y := (y : Int)) (by omega) (hasB_iff.1 HM.out)
              have h2 := place_of (p := (p : Int)) h1 (by omega) (by omega)
              rw [if_pos (by omega)] at h2
              have h3 : (-1 : Int) ∈ drive p (xs.take (k + 1)) := by rw [HS.out, h2]; simp
              have h4 := drive_take_mem _ h3
              have h5 : ¬ allPark p xs = true := fun hh => allPark_iff.1 hh h4
              simp only [parked, if_neg h5])
            rw [hd]
            clear hd
            go_wp2_with fail
            rw [Exit.noGoto_ret]
            go_ret2
            exact postInts_no HF.out P4.below
        · have hty : tk y = false := by rw [HTK.out y hyp]; exact Bool.eq_false_iff.2 hm
          have HM := hid hm
          have HD : Hid (drive p (xs.take (k + 1)) = drive p (xs.take k) ++ [(y : Int)]) := hid (by
            rw [HS.out, place_of hrun (fun e => hm (hasB_iff.2 e.2)) (by omega), if_neg (by omega)])
          clear hm
          go_wp2_with fail
          refine (take_any _ _ _ _ _ _ _ _ hst2 hyp).mono ?_
          rintro e w2 ⟨rfl, hst3, hg3⟩
          rw [hty]
          have ho3 := ho2.kept hg3 (.inl (by omega))
          have hs3 := hg3.size
          go_wp2_with (at_builtin; refine wpList_append_int _ rfl _ _ rfl (w.heap.size + 1) _ _ _ _ _ rfl rfl ho3 (by omega) (by omega) ?_; intro a3 cap3 w3 hown3 hb3)
          go_roundg q
          case rel =>
            exact ⟨k + 1, a3, cap3, by omega, by go_num, rfl, P2.stands hst3 hg3 (fun z hz => by
              show (if z = y then true else tk z) = _
              rw [HTK.out z hz]) HD.out hown3 hb3⟩
          case measure => omega
end Go.Proofs.Ytakadjhbomggbab

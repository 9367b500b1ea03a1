/- The program's ways of driving: what each brings a car to, by contracts. -/
import Derived.Test.YtnddplldkgphnacImplLo
namespace Go.Proofs.Ytnddplldkgphnac
open Go.RowKit

/-- What a car is brought to: a place y and a street with the places Ty, or none and a street with the places T. -/
def PostBring (w : World) (B bt bp g p : Nat) (T Ty : List Int) (y : Int) (e : Ending) (w' : World) : Prop :=
  w.grownBy w' (some g) ∧ ((y < 0 ∧ e = .returned (.tuple #[.int .i64 0, .bool false]) ∧ On w' B bt bp g p T) ∨
    (0 ≤ y ∧ y < p ∧ e = .returned (.tuple #[.int .i64 y, .bool true]) ∧ On w' B bt bp g p Ty))

theorem has_one (W : World) (x : Int) (t : TypeId) (b : Nat) (hb : b = W.heap.size) : Has (W.alloc (.cells #[.int .i64 x] t)) (some ⟨b, 0, none⟩) 1 1 [x] := by
  refine ⟨rfl, Nat.le_refl _, by unfold maxLen; omega, by omega, fun _ => ⟨b, 0, rfl, by simp; omega, fun i hi => ?_⟩⟩
  obtain rfl : i = 0 := by omega
  rw [World.cell?_alloc_at _ _ _ _ (by simpa using hb)]
  rfl

set_option maxHeartbeats 2000000 in
theorem forward_any (B bt bp g p : Nat) (c : Int) (x : Nat) (T : List Int) (w : World) (hst : On w B bt bp g p T) (hxp : x < p) (hp : p ≤ 12) :
    Calls Try.prog 170 #[.agg #[], .int .i64 c, .int .i64 (x : Int), .agg #[.func (.func 96) #[] #[.pointer (some ⟨bt, 0, none⟩)], .func (.func 97) #[] #[.pointer (some ⟨bp, 0, none⟩)]]] w (PostBring w B bt bp g p T (T ++ [place p T x]) (place p T x)) := by
  obtain ⟨l1, l2, l3, l4, l5, l6⟩ := hst.lt
  go_enter Try.func170, Try.ntmps170
  go_wp2_with fail
  have hb : ∀ O1 O2 O3, Below w.heap.size w (((w.alloc O1).alloc O2).alloc O3) := fun O1 O2 O3 => (((Below.refl _ _).alloc (Nat.le_refl _) _).alloc (by simp) _).alloc (by simp; omega) _
  have hH := fun O1 O2 => has_one ((w.alloc O1).alloc O2) (x : Int) 3 (w.heap.size + 1 + 1) (by simp)
  refine (park1_any B bt bp g p _ 1 1 x T _ rfl (hH _ _) (hst.below (hb _ _ _) (Nat.le_refl _)) hxp hp (by rintro q ⟨⟩; simp; omega)).mono ?_
  have HB := hid hb
  clear hb hH hst
  rintro e w2 ⟨hgr, ⟨hy, rfl, hon⟩ | ⟨hy, hyp, a2, cap2, rfl, hown, hon⟩⟩
  · have hgw := grown_trans (grown_below (World.grownBy.refl w (some g)) (HB.out _ _ _) (Nat.le_refl _)) hgr
    have HY := hid hy
    clear HB hgr hy
    go_wp2_with fail
    go_ret2
    exact ⟨hgw, .inl ⟨by rw [HY.out]; omega, rfl, hon⟩⟩
  · have hgw := grown_trans (grown_below (World.grownBy.refl w (some g)) (HB.out _ _ _) (Nat.le_refl _)) hgr
    obtain ⟨g2, rfl, hg1, hg2, hg3, hg4⟩ := hown.opened (by omega)
    have hc := hg3 0 (by omega)
    rw [nth_cons_zero] at hc
    clear HB hgr hown hg3 hg4
    go_wp2_with fail
    go_ret2
    exact ⟨hgw, .inr ⟨hy, hyp, rfl, hon⟩⟩

/-- What the walk of a car that looks back keeps: the boxes of the way (block b0) and of the street (behind it). -/
structure Looks (w wr : World) (B bt bp g p m : Nat) (T : List Int) : Prop where
  on : On wr B bt bp g p T
  most : wr.cell? ⟨w.heap.size, 0, none⟩ = some (.int .i64 (m : Int))
  c1 : wr.cell? ⟨w.heap.size + 1, 0, none⟩ = some (.func (.func 96) #[] #[.pointer (some ⟨bt, 0, none⟩)])
  c2 : wr.cell? ⟨w.heap.size + 1, 1, none⟩ = some (.func (.func 97) #[] #[.pointer (some ⟨bp, 0, none⟩)])
  grown : w.grownBy wr (some g)

set_option maxHeartbeats 2000000 in
theorem back_any (B bt bp g p : Nat) (c : Int) (m x : Nat) (T : List Int) (w : World) (hst : On w B bt bp g p T) (hxp : x < p) (hp : p ≤ 12) (hm : m ≤ 8) :
    Calls Try.prog 171 #[.agg #[.int .i64 (m : Int)], .int .i64 c, .int .i64 (x : Int), .agg #[.func (.func 96) #[] #[.pointer (some ⟨bt, 0, none⟩)], .func (.func 97) #[] #[.pointer (some ⟨bp, 0, none⟩)]]] w (PostBring w B bt bp g p T (T ++ [backPlace p m T x]) (backPlace p m T x)) := by
  obtain ⟨l1, l2, l3, l4, l5, l6⟩ := hst.lt
  go_enter Try.func171, Try.ntmps171
  go_wp2_with fail
  have hbb : ∀ O1 O2, Below w.heap.size w ((w.alloc O1).alloc O2) := fun O1 O2 => (((Below.refl _ _).alloc (Nat.le_refl _) _).alloc (by simp) _)
  have L0 : Looks w ((w.alloc (.cells #[.int .i64 (m : Int)] 81)).alloc (.cells #[.func (.func 96) #[] #[.pointer (some ⟨bt, 0, none⟩)], .func (.func 97) #[] #[.pointer (some ⟨bp, 0, none⟩)]] 75)) B bt bp g p m T := by
    refine ⟨hst.below (hbb _ _) (Nat.le_refl _), ?_, ?_, ?_, grown_below (World.grownBy.refl _ _) (hbb _ _) (Nat.le_refl _)⟩
    · rw [World.cell?_alloc_past _ _ _ (by simp), World.cell?_alloc_at _ _ _ _ rfl]; rfl
    · rw [World.cell?_alloc_at _ _ _ _ (by simp)]; rfl
    · rw [World.cell?_alloc_at _ _ _ _ (by simp)]; rfl
  clear hbb hst
  go_loopw [10] (fun pl wr => ∃ (z : Int) (f : Nat), pl = .int .i64 z ∧ z + (m : Int) + 1 = (x : Int) + (f : Int) ∧ -1 ≤ z ∧ f ≤ m + 1 ∧ Hid (lookBack T (m + 1) x = lookBack T f z) ∧ Looks w wr B bt bp g p m T) (fun pl _ => (intOf pl + 1).toNat)
  case atStart => exact ⟨x, m + 1, rfl, by omega, by omega, Nat.le_refl _, hid rfl, L0⟩
  case round =>
    obtain ⟨z, f, rfl, hzf, hz, hf, HL, L⟩ := hrel
    clear L0
    have hmost := L.most
    have c1 := L.c1
    have c2 := L.c2
    have hon := L.on
    by_cases ht : 0 ≤ z ∧ 1 ≤ f
    · obtain ⟨y, rfl⟩ : ∃ y : Nat, z = (y : Int) := ⟨z.toNat, by omega⟩
      have hyp : y < p := by omega
      have ht1 : (x : Int) - (m : Int) ≤ (y : Int) := by omega
      obtain ⟨f, rfl⟩ : ∃ f', f = f' + 1 := ⟨f - 1, by omega⟩
      have hxm : ¬ (y : Int) < (x : Int) - (m : Int) := by omega
      by_cases hmm : hasB T y = true
      · have HS := hid (lookBack_step (f := f) (show (0 : Int) ≤ (y : Int) by omega) hmm)
        have HM := hid hmm
        clear hmm ht
        (by_cases hneg : (x : Int) - (m : Int) < 0) <;>
        (go_wp2_with fail
         refine (take_on hon hyp).mono ?_
         rintro e w2 ⟨rfl, -, hon2, hg2⟩
         have hon3 := hon2 HM.out
         have hs2 := hg2.size
         have L2 : Looks w w2 B bt bp g p m T := ⟨hon3, grown_cell hg2 hmost (by omega), grown_cell hg2 c1 (by omega), grown_cell hg2 c2 (by omega), grown_trans L.grown hg2⟩
         rw [HM.out]
         clear L hmost c1 c2 hon hon2 hon3 hg2
         go_wp2_with fail
         go_roundw
         case rel => exact ⟨(y : Int) - 1, f, rfl, by omega, by omega, by omega, hid (by rw [HL.out, HS.out]), L2⟩
         case measure => simp [intOf])
      · have HS := hid (lookBack_hit (f := f) (show (0 : Int) ≤ (y : Int) by omega) hmm)
        have hf2 : hasB T y = false := by simpa using hmm
        have HF := hid hf2
        have HR : Hid (backPlace p m T x = y) := hid (by rw [backPlace_pos (by rw [HL.out, HS.out]; omega), HL.out, HS.out])
        clear hmm ht hf2
        (by_cases hneg : (x : Int) - (m : Int) < 0) <;>
        (go_wp2_with fail
         refine (take_on hon hyp).mono ?_
         rintro e w2 ⟨rfl, hon2, -, hg2⟩
         have hgw := grown_trans L.grown hg2
         rw [HF.out]
         clear L hmost c1 c2 hon hg2
         go_wp2_with fail
         go_ret2
         rw [HR.out]
         exact ⟨hgw, .inr ⟨by omega, by omega, rfl, hon2⟩⟩)
    · have HN : Hid (lookBack T (m + 1) x = -1) := hid (by
        rw [HL.out]
        by_cases h0 : z < 0
        · exact lookBack_neg h0
        · rw [show f = 0 by omega]; rfl)
      have HR : Hid (backPlace p m T x = place p T x) := hid (backPlace_neg HN.out)
      have hgr := L.grown
      have hzn : z < 0 ∨ z < (x : Int) - (m : Int) := by omega
      clear L ht
      (by_cases hneg : (x : Int) - (m : Int) < 0) <;>
      (have hxz : ¬ (if (x : Int) - (m : Int) < 0 then 0 else (x : Int) - (m : Int)) ≤ z := by split <;> omega
       go_wp2_with fail
       refine (forward_any B bt bp g p c x T wr hon hxp hp).mono ?_
       rintro e w2 ⟨hg2, ⟨hy, rfl, hon2⟩ | ⟨hy, hyp, rfl, hon2⟩⟩
       · have hgw := grown_trans hgr hg2
         have HY := hid hy
         clear hmost c1 c2 hon hg2 hgr hy
         go_wp2_with fail
         go_ret2
         rw [HR.out]
         exact ⟨hgw, .inl ⟨HY.out, rfl, hon2⟩⟩
       · have hgw := grown_trans hgr hg2
         clear hmost c1 c2 hon hg2 hgr
         go_wp2_with fail
         go_ret2
         rw [HR.out]
         exact ⟨hgw, .inr ⟨hy, hyp, rfl, hon2⟩⟩)

end Go.Proofs.Ytnddplldkgphnac

/- Chapter 9: the parts are taken out of the map, from the first one on. -/
import Derived.Test.YtnddplldkgphnaaGreatPartsO
namespace Go.Proofs.YtnddplldkgphnaaGreat
open Go.RowKit Go.Maps

/-- The least of the keys that have come, or 8. -/
def FirstK (D : DataW Value) (left : Lit → Bool) (f : Int) : Prop :=
  (0 ≤ f ∧ f ≤ 8) ∧ (f = 8 ∨ ∃ x : Nat, x < 8 ∧ f = (x : Int) ∧ Maps.has D (.int .i64 (x : Int)) = true ∧ left (.int .i64 (x : Int)) = false) ∧ ∀ x : Nat, x < 8 → Maps.has D (.int .i64 (x : Int)) = true → left (.int .i64 (x : Int)) = false → f ≤ (x : Int)
theorem FirstK.step {D : DataW Value} {left : Lit → Bool} {f : Int} (h : FirstK D left f) {x : Nat} (hx : x < 8) (hh : Maps.has D (.int .i64 (x : Int)) = true) : FirstK D (fun z => left z && !z.sameKey (.int .i64 (x : Int))) (min f (x : Int)) := by
  obtain ⟨h0, h1, h2⟩ := h
  have hs : (Lit.int .i64 (x : Int)).sameKey (.int .i64 (x : Int)) = true := WideAt.sameKey_self (keyLit_int x (by omega))
  refine ⟨by omega, ?_, fun z hz hhz hl => ?_⟩
  · rcases Int.le_total f (x : Int) with hle | hle
    · rw [Int.min_eq_left hle]
      rcases h1 with rfl | ⟨y, y1, y2, y3, y4⟩
      · exact .inl rfl
      · exact .inr ⟨y, y1, y2, y3, by simp [y4]⟩
    · rw [Int.min_eq_right hle]
      exact .inr ⟨x, hx, rfl, hh, by simp [hs]⟩
  · by_cases e : left (.int .i64 (z : Int)) = false
    · have := h2 z hz hhz e
      omega
    · rw [Bool.not_eq_false] at e
      simp only [e, Bool.true_and, Bool.not_eq_false'] at hl
      by_cases ez : z = x
      · subst ez; omega
      · rw [sameKey_ne (litNe ez)] at hl
        cases hl
theorem FirstK.done {D : DataW Value} {left : Lit → Bool} {f : Int} (h : FirstK D left f) (hl : ∀ kl, left kl = false) {m : Nat} (hm : m < 8) (hh : Maps.has D (.int .i64 (m : Int)) = true) (hmin : ∀ x, x < m → Maps.has D (.int .i64 (x : Int)) = false) : f = (m : Int) := by
  obtain ⟨h0, h1, h2⟩ := h
  have h3 := h2 m hm hh (hl _)
  rcases h1 with rfl | ⟨y, y1, y2, y3, y4⟩
  · omega
  · rcases Nat.lt_or_ge y m with hlt | hge
    · rw [hmin y hlt] at y3; cases y3
    · omega
theorem isSome_valF (G : Nat → List Int) (r : Nat → Rw) (x : Nat) : (valF G r x).isSome = !(G x).isEmpty := by
  unfold valF
  by_cases e : G x = []
  · simp [e]
  · rw [if_neg e]; simp [e]
theorem PartsR.taken {w w' : World} {b B : Nat} {G : Nat → List Int} {r : Nat → Rw} (h : PartsR w b B G r) {m : Nat} (hm : m < 8) (hG : G m ≠ []) {cnt : Nat} (hp : PM w' b (upd (valF G r) m none) cnt) (hc : cnt = (keysG G).length - 1) (ht : w.grownBy w' (some b)) : PartsR w' b B (upd G m []) r := by
  obtain ⟨h1, h2, h3, h4⟩ := h
  have hu : ∀ x, upd G m [] x ≠ [] → x ≠ m ∧ G x ≠ [] := fun x hx => by
    by_cases e : x = m
    · simp [upd, e] at hx
    · simp only [upd, if_neg e] at hx
      exact ⟨e, hx⟩
  refine ⟨hp.congr ?_ (fun x hx => ?_), h2, fun x hx hg => ?_, fun x y hx hy hxy hgx hgy => h4 x y hx hy hxy (hu x hgx).2 (hu y hgy).2⟩
  · have := keysG_upd G hm []
    rw [if_neg hG, if_pos rfl] at this
    omega
  · by_cases e : x = m
    · subst e; simp [upd, valF]
    · simp [upd, valF, e]
  · obtain ⟨e1, e2⟩ := hu x hg
    have := h3 x hx e2
    rw [show upd G m [] x = G x by simp [upd, e1]]
    exact ⟨this.1, turned_own this.2 ht h2⟩

set_option maxHeartbeats 2000000 in
theorem takeFirst_any (b B : Nat) (G : Nat → List Int) (r : Nat → Rw) (m : Nat) (w : World) (h : PartsR w b B G r) (hm : m < 8) (hG : G m ≠ []) (hmin : ∀ x, x < m → G x = []) :
    Calls Tryz.prog 58 #[.map (some b)] w fun e w' => e = .returned (.slice (r m).a (r m).xs.length (r m).c) ∧ PartsR w' b B (upd G m []) r ∧ w.grownBy w' (some b) := by
  have HP := hid h
  obtain ⟨⟨D, d1, d2, d3, d4, d5⟩, -, -, -⟩ := id h
  have D3 := hid d3
  have D4 : Hid (∀ x : Nat, x < 8 → Maps.has D (.int .i64 (x : Int)) = !(G x).isEmpty) := hid (fun x hx => by rw [d4 x hx, isSome_valF])
  have HM : Hid (Maps.has D (.int .i64 (m : Int)) = true) := hid (by rw [D4.out m hm]; simp [hG])
  have HMIN : Hid (∀ x, x < m → Maps.has D (.int .i64 (x : Int)) = false) := hid (fun x hx => by rw [D4.out x (by omega), hmin x hx]; rfl)
  have HV : Hid (valF G r m = some (r m).v) := hid (by simp [valF, hG])
  have hlb := d1.lt
  clear h hG hmin d2 d3 d4 d5
  go_enter Tryz.func58, Tryz.ntmps58
  go_wp2_with (first | (at_range; refine wpList_range_own _ rfl _ _ rfl 3 24 Tryz.keyLaw Tryz.underlying51 rv b _ D rfl d1 ?_; intro w0 hrg0 hg0 hs0) | go_in)
  go_frame
  go_loopw [3] (fun f wr => ∃ (left : Lit → Bool) (cnt : Nat) (v : Int), f = .int .i64 v ∧ wr.ranges Tryz.prog 3 rv b w.heap.size (keysG G).length D left cnt ∧ Hid (FirstK D left v) ∧ Hid (∀ kl, left kl = true → Maps.has D kl = true) ∧ w.grownBy wr none) (fun _ wr => wr.rangeLeft b w.heap.size)
  case atStart => exact ⟨_, _, 8, rfl, hrg0, hid ⟨by omega, .inl rfl, fun x _ h1 h2 => by rw [h1] at h2; cases h2⟩, hid (fun _ h => h), hg0⟩
  case round =>
    clear hrg0 hg0 hs0 d1
    obtain ⟨left, cnt, v, rfl, hrg, HF, HL, hgw⟩ := hrel
    go_wp2_with (first | (at_next; refine wpList_next_ranges _ rfl _ rfl 3 Tryz.keyLaw rv (Value.int .i64) id (fun key kl hkey => by obtain ⟨x, rfl, _⟩ := keyOf_int_inv Tryz.underlying3 hkey; exact ⟨x, rfl⟩) (fun v _ _ => ⟨v, rfl⟩) b w.heap.size _ D _ _ rfl hrg ?_ ?_) | go_in)
    · intro _ hl0
      obtain rfl : v = (m : Int) := HF.out.done hl0 hm HM.out HMIN.out
      have hpw := HP.out.1.kept hgw (by simp)
      go_wp2_with (first | (at_lookup; refine wpList_look_pm _ rfl _ _ rfl b _ (valF G r) m _ hm rfl rfl hpw HV.out ?_) | (at_delete; refine wpList_delete_pm _ rfl _ _ rfl b _ (valF G r) m hm rfl rfl hpw ?_; intro w2 hp2 hg2; go_frame) | go_in)
      have hgt : w.grownBy w2 (some b) := (hgw.but (some b)).andThen hg2 (fun j hj => .inr hj)
      have hfin := HP.out.taken hm (by intro e; have := HV.out; simp [valF, e] at this) hp2 (by rw [if_pos (by rw [HV.out]; rfl)]) hgt
      go_ret
      exact ⟨rfl, hfin, hgt⟩
    · intro x c kl y y2 w1 cnt1 hkey hlx hrv hat hrg1 hlt hg1 hs1 hen
      obtain ⟨x', e1, e2, _⟩ := keyOf_int_inv Tryz.underlying3 hkey
      cases e1
      subst e2
      obtain ⟨z, hz, ez⟩ := D3.out _ (HL.out _ hlx)
      injection ez with _ ez
      subst ez
      have HF2 := hid (HF.out.step hz (HL.out _ hlx))
      have HL2 : Hid (∀ kl, (left kl && !kl.sameKey (.int .i64 (z : Int))) = true → Maps.has D kl = true) := hid (fun kl hk => by
        simp only [Bool.and_eq_true] at hk
        exact HL.out kl hk.1)
      have hgw1 := hgw.andThen hg1 (fun j hj => by cases hj; exact Or.inl (Nat.le_refl _))
      clear hkey hrv hat
      go_wp2_with fail
      go_roundw
      case rel => exact ⟨_, cnt1, min v (z : Int), by first | rfl | (congr 1; omega), hrg1, HF2, HL2, hgw1⟩
      case measure => rw [hrg1.left_eq, hrg.left_eq]; exact hlt
end Go.Proofs.YtnddplldkgphnaaGreat

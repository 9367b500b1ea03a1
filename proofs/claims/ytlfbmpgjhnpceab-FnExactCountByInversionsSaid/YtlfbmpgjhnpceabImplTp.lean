/- The program's words of trees, by their contracts. -/
import Derived.Test.YtlfbmpgjhnpceabImplTs
import Derived.Test.YtlfbmpgjhnpceabSpecTw
import Derived.Test.YtlfbmpgjhnpceabSpecTp
namespace Go.Proofs.Ytlfbmpgjhnpceab
open Go.RowKit

/-- The degrees as a list. -/
def Degs (ds : List Int) (f : Nat → Nat) (n : Nat) : Prop := ds.length = n + 1 ∧ ∀ v : Nat, v ≤ n → nth ds v = (f v : Int)
theorem Degs.cut {ds : List Int} {f : Nat → Nat} {n x : Nat} (h : Degs ds f n) (hx : x ≤ n) : Degs (ds.set x 0) (fun v => if v = x then 0 else f v) n :=
  ⟨by simp [h.1], fun v hv => by
    show nth (ds.set x 0) v = ((if v = x then 0 else f v : Nat) : Int)
    rw [nth_set (by rw [h.1]; omega)]
    by_cases e : x = v
    · subst e; rw [if_pos rfl, if_pos rfl]; rfl
    · rw [if_neg e, if_neg (fun hh => e hh.symm), h.2 v hv]⟩
theorem Degs.less {ds : List Int} {f : Nat → Nat} {n p : Nat} (h : Degs ds f n) (hp : p ≤ n) (h1 : 1 ≤ f p) : Degs (ds.set p (nth ds p - 1)) (fun v => if v = p then f p - 1 else f v) n :=
  ⟨by simp [h.1], fun v hv => by
    show nth (ds.set p (nth ds p - 1)) v = ((if v = p then f p - 1 else f v : Nat) : Int)
    rw [nth_set (by rw [h.1]; omega)]
    by_cases e : p = v
    · subst e; rw [if_pos rfl, if_pos rfl, h.2 p hp]; omega
    · rw [if_neg e, if_neg (fun hh => e hh.symm), h.2 v hv]⟩

set_option maxHeartbeats 400000 in
theorem cutLeaf_any (B : Nat) (g : Nat) (n cap : Nat) (ds : List Int) (f : Nat → Nat) (x : Nat) (w : World) (h : Own w B (some ⟨g, 0, none⟩) (n + 1) cap ds) (hd : Degs ds f n) (h8 : n ≤ 8) (hxn : x ≤ n) (h1 : f x = 1) (h2 : ∀ v, x < v → v ≤ n → f v ≠ 1) :
    Calls Try.prog 193 #[.slice (some ⟨g, 0, none⟩) (n + 1) cap] w fun e w' => e = .returned (.int .i64 (x : Int)) ∧ Own w' B (some ⟨g, 0, none⟩) (n + 1) cap (ds.set x 0) ∧ w.grownBy w' (some g) := by
  obtain ⟨g', hgg, hg1, hg2, hg3, hg4⟩ := h.opened (by omega)
  cases hgg
  have HD := hid hd
  have H2 := hid h2
  have H1 := hid h1
  clear hd h2 h1
  go_enter Try.func193, Try.ntmps193
  go_wp2_with fail
  go_loop [3] (fun i => ∃ j : Nat, x ≤ j ∧ j ≤ n ∧ i = .int .i64 j) (fun i => (intOf i).toNat)
  case atStart => exact ⟨n, hxn, Nat.le_refl _, by go_num⟩
  case round =>
    obtain ⟨j, hj1, hj2, rfl⟩ := hrel
    have hgj := hg3 j (by omega)
    have hgx := hg3 x (by omega)
    have hgf := hg4 x
    have HV : Hid (nth ds j = (f j : Int)) := hid (HD.out.2 j hj2)
    rw [HV.out] at hgj
    have hjn : j < n + 1 := by omega
    by_cases hjx : j = x
    · rw [hjx, H1.out] at hgj
      have HX := hid hjx
      subst hjx
      clear hg3 hg4
      go_wp2_with fail
      go_ret
      obtain ⟨s1, s2⟩ := h.set j 0
      exact ⟨rfl, s1, s2⟩
    · have hne : ¬ f j = 1 := H2.out j (by omega) hj2
      have hbe : ((f j : Int) != 1) = true := by simp; omega
      clear hg3 hg4 hgx
      go_wp2_with fail
      go_round
      case rel => exact ⟨j - 1, by omega, by omega, by go_num⟩
      case measure => simp [intOf]; omega

theorem degL_degs (xs : List Int) {n : Nat} (h : xs.length = n) : Degs (degL xs) (deg xs) n := by
  subst h
  exact ⟨length_degL xs, fun v hv => nth_degL hv⟩
theorem Degs.congr {ds : List Int} {f g : Nat → Nat} {n : Nat} (h : Degs ds f n) (he : ∀ v, v ≤ n → g v = f v) : Degs ds g n := ⟨h.1, fun v hv => by rw [he v hv]; exact h.2 v hv⟩

end Go.Proofs.Ytlfbmpgjhnpceab

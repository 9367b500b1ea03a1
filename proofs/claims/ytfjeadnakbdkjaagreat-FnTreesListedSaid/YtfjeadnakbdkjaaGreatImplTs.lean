/- The program's functions of chapter 3, by their contracts: children, degrees, breadth orders, trees of parking functions. -/
import Derived.Test.YtfjeadnakbdkjaaGreatImplTr
import Derived.Test.YtfjeadnakbdkjaaGreatImplC
import Derived.Test.YtfjeadnakbdkjaaGreatSpecTu
namespace Go.Proofs.YtfjeadnakbdkjaaGreat
open Go.RowKit

/-- The degrees as they are counted. -/
def DegsAt (ps ys : List Int) (k : Nat) : Prop := ∀ v : Nat, v ≤ ps.length → nth ys v = (degTo ps k v : Int)
theorem degs_zero {ps : List Int} : DegsAt ps (List.replicate (ps.length + 1) 0) 0 := fun v _ => by
  rw [nth_replicate0']
  unfold degTo
  rw [if_neg (by omega)]
  simp
theorem degs_all {ps ys : List Int} (h : DegsAt ps ys ps.length) (hl : ys.length = ps.length + 1) : ys = degL ps :=
  ext_nth (by rw [hl, length_degL]) fun v hv => by
    rw [h v (by omega), degTo_all (by omega), nth_degL (by omega)]
theorem degs_step {ps ys : List Int} {k x : Nat} (h : DegsAt ps ys k) (hk : k < ps.length) (hl : ys.length = ps.length + 1) (hx : nth ps k = (x : Int)) (hxn : x ≤ ps.length) :
    DegsAt ps ((ys.set x (nth ys x + 1)).set (k + 1) (nth (ys.set x (nth ys x + 1)) (k + 1) + 1)) (k + 1) := fun v hv => by
  rw [nth_set (by simp; omega)]
  have h1 : ∀ v : Nat, v ≤ ps.length → nth (ys.set x (nth ys x + 1)) v = (degTo ps k v : Int) + if x = v then 1 else 0 := fun v hv => by
    rw [nth_set (by omega)]
    by_cases e : x = v
    · subst e; rw [if_pos rfl, if_pos rfl, h x hv]
    · rw [if_neg e, if_neg e, h v hv]; omega
  have h2 := degTo_succ hk v
  rw [hx] at h2
  by_cases e : k + 1 = v
  · subst e
    rw [if_pos rfl, h1 _ hv]
    rw [if_pos (rfl : k + 1 = k + 1)] at h2
    by_cases e2 : x = k + 1
    · rw [if_pos e2]; rw [if_pos (by omega)] at h2; omega
    · rw [if_neg e2]; rw [if_neg (by omega)] at h2; omega
  · rw [if_neg e, h1 v hv]
    rw [if_neg (fun hh : v = k + 1 => e hh.symm)] at h2
    by_cases e2 : x = v
    · rw [if_pos e2]; rw [if_pos (by omega)] at h2; omega
    · rw [if_neg e2]; rw [if_neg (by omega)] at h2; omega

set_option maxHeartbeats 1000000 in
theorem degreesOf_any (a : Option Addr) (n cap : Nat) (xs : List Int) (w : World) (h : Has w a n cap xs) (h8 : n ≤ 8) (hb0 : ∀ i, i < n → 0 ≤ nth xs i ∧ nth xs i ≤ (n : Int)) :
    Calls Tryz.prog 35 #[.slice a n cap] w fun e w' => ∃ a' cap', e = .returned (.slice a' (n + 1) cap') ∧ Own w' w.heap.size a' (n + 1) cap' (degL xs) ∧ Below w.heap.size w w' := by
  have HL := hid h.len
  have HB := hid hb0
  have HC : Hid ((n : Int) + 1 = ((n + 1 : Nat) : Int)) := hid (by omega)
  clear hb0
  go_enter Tryz.func35, Tryz.ntmps35
  go_wp2_with (at_make; refine wpList_make_ints _ rfl _ _ rfl (n + 1) (by rw [← HC.out]; rfl) (by rw [← HC.out]; rfl) (by omega) ?_; intro a' cap' w1 hown1 hb1)
  go_loopw [12] (fun i wr => ∃ (k : Nat) (ys : List Int), k ≤ n ∧ i = .int .i64 k ∧ Own wr w.heap.size a' (n + 1) cap' ys ∧ DegsAt xs ys k ∧ Below w.heap.size w wr) (fun i _ => n - (intOf i).toNat)
  case atStart => exact ⟨0, _, Nat.zero_le _, rfl, hown1, by have := degs_zero (ps := xs); rw [HL.out] at this; exact this, hb1⟩
  case round =>
    obtain ⟨k, ys, hk, rfl, hown, hds, hb⟩ := hrel
    have HD := hid hds
    clear hds hown1 hb1
    by_cases hlt : k < n
    · obtain ⟨g, rfl, hg1, hg2, hg3, hg4⟩ := hown.opened (by omega)
      obtain ⟨b, off, rfl, hbb, hc⟩ := h.2.2.2.2 (by omega)
      have hck : wr.cell? ⟨b, off + k, none⟩ = some (.int .i64 (nth xs k)) := by rw [hb.cell (p := ⟨b, off + k, none⟩) hbb]; exact hc k hlt
      have hbn := HB.out k hlt
      obtain ⟨x, hx⟩ : ∃ x : Nat, nth xs k = (x : Int) := ⟨(nth xs k).toNat, by omega⟩
      have hxn : x ≤ n := by omega
      rw [hx] at hck
      obtain ⟨s1, s2⟩ := hown.set x (nth ys x + 1)
      obtain ⟨_, _, _, _, _⟩ := s1.has
      obtain ⟨g', hgg, hk1, hk2, hk3, hk4⟩ := s1.opened (by omega)
      cases hgg
      have hgx := hg3 x (by omega)
      have hgf := hg4 x
      have hgk := hk3 (k + 1) (by omega)
      have hgkf := hk4 (k + 1)
      have q1 : nth ys x = (degTo xs k x : Int) := HD.out x (by rw [HL.out]; exact hxn)
      have q2 := degTo_le (ps := xs) k x (by rw [HL.out]; exact h8)
      have q3 : nth (ys.set x (nth ys x + 1)) (k + 1) ≤ 100 ∧ 0 ≤ nth (ys.set x (nth ys x + 1)) (k + 1) := by
        rw [nth_set (by rw [hown.len]; omega)]
        have r1 := HD.out (k + 1) (by rw [HL.out]; omega)
        have r2 := degTo_le (ps := xs) k (k + 1) (by rw [HL.out]; exact h8)
        split <;> omega
      have q4 : 0 ≤ nth ys x ∧ nth ys x ≤ 9 := by omega
      have HS := hid (degs_step HD.out (by rw [HL.out]; exact hlt) (by rw [hown.len, HL.out]) hx (by rw [HL.out]; exact hxn))
      have hb2 := (hb.setCell (p := ⟨g, x, none⟩) hg1 (.int .i64 (nth ys x + 1))).setCell (p := ⟨g, k + 1, none⟩) hg1 (.int .i64 (nth (ys.set x (nth ys x + 1)) (k + 1) + 1))
      obtain ⟨t1, t2⟩ := s1.set (k + 1) (nth (ys.set x (nth ys x + 1)) (k + 1) + 1)
      obtain ⟨y1, hy1⟩ : ∃ y, nth ys x = y := ⟨_, rfl⟩
      obtain ⟨y2, hy2⟩ : ∃ y, nth (ys.set x (nth ys x + 1)) (k + 1) = y := ⟨_, rfl⟩
      rw [hy2] at hgk q3 hb2 t1 t2 HS
      rw [hy1] at hgx q4 hgk hb2 t1 t2 s1 s2 HS hgkf
      clear q1 q2 hc hg3 hg4 hk3 hk4 hbn hx hy1 hy2 s1
      go_wp2_with fail
      go_roundw
      case rel => exact ⟨k + 1, _, by omega, by go_num, t1, HS.out, hb2⟩
      case measure => simp [intOf]; omega
    · obtain rfl : k = n := by omega
      have HF : Hid (ys = degL xs) := hid (degs_all (by rw [HL.out]; exact HD.out) (by rw [hown.len, HL.out]))
      go_wp2_with fail
      go_ret
      exact ⟨_, _, rfl, by rw [← HF.out]; exact hown, hb⟩

end Go.Proofs.YtfjeadnakbdkjaaGreat

/- The program's functions of chapter 3, by their contracts: children, degrees, breadth orders, trees of parking functions. -/
import Derived.Test.YtdemcjciijlbeaaImplTr
import Derived.Test.YtdemcjciijlbeaaImplC
import Derived.Test.YtdemcjciijlbeaaSpecTu
namespace Go.Proofs.Ytdemcjciijlbeaa
open Go.RowKit

set_option maxHeartbeats 400000 in
theorem nodesWith_any (a : Option Addr) (n cap : Nat) (xs : List Int) (x : Int) (w : World) (h : Has w a n cap xs) :
    Calls Try.prog 39 #[.slice a n cap, .int .i64 x] w fun e w' => ∃ a' m cap', e = .returned (.slice a' m cap') ∧ Own w' w.heap.size a' m cap' (nodesW xs x) ∧ Below w.heap.size w w' := by
  have HL := hid h.len
  have hn := h.le
  go_enter Try.func39, Try.ntmps39
  go_wp2_with fail
  go_loopw [5, 10] (fun o i wr => ∃ (k q : Nat) (a' : Option Addr) (cap' : Nat), k ≤ n ∧ i = .int .i64 k ∧ o = .slice a' q cap' ∧ q ≤ k ∧ Own wr w.heap.size a' q cap' (nodesTo xs x k) ∧ Below w.heap.size w wr) (fun _ i _ => n - (intOf i).toNat)
  case atStart => exact ⟨0, 0, none, 0, Nat.zero_le _, rfl, rfl, by omega, Own.nil _ _, Below.refl _ _⟩
  case round =>
    obtain ⟨k, q, a', cap', hk, rfl, rfl, hq, hown, hb⟩ := hrel
    by_cases hlt : k < n
    · obtain ⟨b, off, rfl, hbb, hc⟩ := h.2.2.2.2 (by omega)
      have hck : wr.cell? ⟨b, off + k, none⟩ = some (.int .i64 (nth xs k)) := by rw [hb.cell (p := ⟨b, off + k, none⟩) hbb]; exact hc k hlt
      clear hc
      by_cases he : nth xs k = x
      · have HE := hid (nodesTo_yes he)
        have hbe : (nth xs k == x) = true := by simp [he]
        clear he
        go_wp2_with (at_builtin; refine wpList_append_int _ rfl _ _ rfl w.heap.size _ _ _ _ _ rfl rfl hown (by omega) hb.size ?_; intro a2 cap2 w2 hown2 hb2)
        go_roundw
        case rel => exact ⟨k + 1, q + 1, a2, cap2, by omega, by go_num, rfl, by omega, by rw [HE.out]; exact hown2, hb.trans hb2⟩
        case measure => simp [intOf]; omega
      · have HE := hid (nodesTo_no he)
        have hbe : (nth xs k == x) = false := by simp [he]
        clear he
        go_wp2_with fail
        go_roundw
        case rel => exact ⟨k + 1, q, a', cap', by omega, by go_num, rfl, by omega, by rw [HE.out]; exact hown, hb⟩
        case measure => simp [intOf]; omega
    · obtain rfl : k = n := by omega
      have HN : Hid (nodesTo xs x k = nodesW xs x) := hid (by unfold nodesW; rw [HL.out])
      go_wp2_with fail
      go_ret
      exact ⟨_, _, _, rfl, by rw [← HN.out]; exact hown, hb⟩

/-- The degrees as they are counted. -/
def DegsAt (ps ys : List Int) (k : Nat) : Prop := ∀ v : Nat, v ≤ ps.length → nth ys v = (degTo ps k v : Int)
theorem degs_zero {ps : List Int} : DegsAt ps (List.replicate (ps.length + 1) 0) 0 := fun v _ => by
  rw [nth_replicate0']
  unfold degTo
  rw [if_neg (by omega)]
  simp
theorem degs_all {ps ys : List Int} (h : DegsAt ps ys ps.length) (hl : ys.length = ps.length + 1) : ys = degL ps :=
  ext_nth (by rw [hl, length_degL]) fun v hv => by
    rw [h v (by omega), degTo_all (by omega), nth_degL (by omega)]
theorem degs_step {ps ys : List Int} {k x : Nat} (h : DegsAt ps ys k) (hk : k < ps.length) (hl : ys.length = ps.length + 1) (hx : nth ps k = (x : Int)) (hxn : x ≤ ps.length) :
    DegsAt ps ((ys.set x (nth ys x + 1)).set (k + 1) (nth (ys.set x (nth ys x + 1)) (k + 1) + 1)) (k + 1) := fun v hv => by
  rw [nth_set (by simp; omega)]
  have h1 : ∀ v : Nat, v ≤ ps.length → nth (ys.set x (nth ys x + 1)) v = (degTo ps k v : Int) + if x = v then 1 else 0 := fun v hv => by
    rw [nth_set (by omega)]
    by_cases e : x = v
    · subst e; rw [if_pos rfl, if_pos rfl, h x hv]
    · rw [if_neg e, if_neg e, h v hv]; omega
  have h2 := degTo_succ hk v
  rw [hx] at h2
  by_cases e : k + 1 = v
  · subst e
    rw [if_pos rfl, h1 _ hv]
    rw [if_pos (rfl : k + 1 = k + 1)] at h2
    by_cases e2 : x = k + 1
    · rw [if_pos e2]; rw [if_pos (by omega)] at h2; omega
    · rw [if_neg e2]; rw [if_neg (by omega)] at h2; omega
  · rw [if_neg e, h1 v hv]
    rw [if_neg (fun hh : v = k + 1 => e hh.symm)] at h2
    by_cases e2 : x = v
    · rw [if_pos e2]; rw [if_pos (by omega)] at h2; omega
    · rw [if_neg e2]; rw [if_neg (by omega)] at h2; omega

set_option maxHeartbeats 1000000 in
theorem breadthOrder_any (a : Option Addr) (n cap : Nat) (xs : List Int) (w : World) (h : Has w a n cap xs) (h8 : n ≤ 8) :
    Calls Try.prog 26 #[.slice a n cap] w fun e w' => ∃ a' m cap', e = .returned (.slice a' m cap') ∧ Own w' w.heap.size a' m cap' (brOrder xs) ∧ Below w.heap.size w w' := by
  have HL := hid h.len
  have hb0 : Below w.heap.size w (w.alloc (.cells #[.int .i64 0] 3)) := (Below.refl _ _).alloc (Nat.le_refl _) _
  have ho0 := own_lit1 w w.heap.size 0 (Nat.le_refl _)
  go_enter Try.func26, Try.ntmps26
  go_wp2_with fail
  go_loopw [3, 4] (fun o i wr => ∃ (k m : Nat) (a' : Option Addr) (cap' : Nat), k ≤ n + 1 ∧ i = .int .i64 k ∧ o = .slice a' m cap' ∧ Own wr w.heap.size a' m cap' (bfs xs k) ∧ Below w.heap.size w wr) (fun _ i _ => n + 2 - (intOf i).toNat)
  case atStart => exact ⟨0, 1, _, 1, by omega, rfl, rfl, ho0, hb0⟩
  case round =>
    obtain ⟨k, m, a', cap', hk, rfl, rfl, hown, hb⟩ := hrel
    have hm : m ≤ n + 1 := by have h1 := bfs_len xs k; have h2 := hown.len; have h3 := HL.out; omega
    have HM := hid hown.len
    clear ho0 hb0
    by_cases hlt : k < m
    · have HS := hid (bfs_step (ps := xs) (k := k) (by rw [HM.out]; exact hlt))
      have HN : Hid ((nodesW xs (nth (bfs xs k) k)).length ≤ n) := hid (by have := length_nodesTo xs (nth (bfs xs k) k) xs.length; rw [HL.out] at this; unfold nodesW; rw [HL.out]; exact this)
      obtain ⟨g, rfl, hg1, hg2, hg3, hg4⟩ := hown.opened (by omega)
      have hgk := hg3 k hlt
      clear hg3 hg4
      go_wp2_with fail
      refine (nodesWith_any _ _ _ _ _ _ (h.below hb (Nat.le_refl _))).mono ?_
      rintro e w2 ⟨a2, m2, cap2, rfl, hown2, hb2⟩
      have hm2 : m2 ≤ n := by have := HN.out; rw [hown2.len] at this; exact this
      have hownX := hown.below hb2 (Nat.le_refl _)
      have hle2 := Nat.le_trans hb.size hb2.size
      go_wp2_with (at_builtin; refine wpList_append_ints _ rfl _ _ rfl w.heap.size _ _ _ _ _ _ _ _ rfl rfl hownX hown2.has (by omega) hle2 ?_; intro a4 n4 cap4 w4 hn4 hown4 hb4)
      go_roundw
      case rel => exact ⟨k + 1, n4, a4, cap4, by omega, by go_num, slice_len (by omega), by rw [HS.out]; exact hown4, (hb.trans (hb2.mono hb.size)).trans hb4⟩
      case measure => simp [intOf]; omega
    · have HD := hid (bfs_done (ps := xs) (k := k) (by rw [HM.out]; omega))
      go_wp2_with fail
      go_ret
      exact ⟨_, _, _, rfl, by rw [← HD.out]; exact hown, hb⟩

set_option maxHeartbeats 400000 in
theorem implBreadth_any (a : Option Addr) (n cap : Nat) (xs : List Int) (w : World) (h : Has w a n cap xs) :
    Calls Try.prog 16 #[.slice a n cap] w (PostInts w (brOf xs)) := by
  by_cases hg : treeB xs = true
  · have HR : Hid (brOf xs = (brOrder xs, true)) := hid (by simp [brOf, hg])
    have h8 := (tree_of hg h.len).le
    have HG := hid hg
    clear hg
    go_enter Try.func16, Try.ntmps16
    go_wp2_with (go_at_call 18; refine (isTree_any _ _ _ _ _ h).mono ?_; rintro e w1 ⟨rfl, hb1⟩; rw [HG.out])
    refine (breadthOrder_any _ _ _ _ _ (h.below hb1 (Nat.le_refl _)) h8).mono ?_
    rintro e w2 ⟨a1, m1, cap1, rfl, hown1, hb2⟩
    go_wp2_with fail
    go_ret2
    exact postInts HR.out (hown1.mono hb1.size) (hb1.trans (hb2.mono hb1.size))
  · have HR : Hid (brOf xs = ([], false)) := hid (by simp [brOf, hg])
    have HG := hid (Bool.eq_false_iff.2 hg)
    clear hg
    go_enter Try.func16, Try.ntmps16
    go_wp2_with (go_at_call 18; refine (isTree_any _ _ _ _ _ h).mono ?_; rintro e w1 ⟨rfl, hb1⟩; rw [HG.out])
    go_ret2
    exact postInts_no HR.out hb1

end Go.Proofs.Ytdemcjciijlbeaa

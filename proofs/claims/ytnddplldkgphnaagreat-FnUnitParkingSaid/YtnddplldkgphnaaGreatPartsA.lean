/- Chapter 9: all parts, one after the other. -/
import Derived.Test.YtnddplldkgphnaaGreatPartsT
import Derived.StillTailTactics
namespace Go.Proofs.YtnddplldkgphnaaGreat
open Go.RowKit Go.Maps

theorem keysG_mem {G : Nat → List Int} {x : Nat} : x ∈ keysG G ↔ x < 8 ∧ G x ≠ [] := by simp [keysG]
theorem keysG_sorted (G : Nat → List Int) : (keysG G).Pairwise (· < ·) := List.Pairwise.filter _ List.pairwise_lt_range
/-- What is left when the first k are taken. -/
def leftG (G : Nat → List Int) (k : Nat) : Nat → List Int := fun x => if x ∈ (keysG G).take k then [] else G x
theorem leftG_zero (G : Nat → List Int) : leftG G 0 = G := by funext x; simp [leftG]
theorem leftG_keys (G : Nat → List Int) (k : Nat) : keysG (leftG G k) = (keysG G).drop k := by
  have h1 : keysG (leftG G k) = (keysG G).filter fun x => decide (x ∉ (keysG G).take k) := by
    unfold keysG
    rw [List.filter_filter]
    refine List.filter_congr fun x _ => ?_
    unfold leftG keysG
    by_cases e : x ∈ ((List.range 8).filter fun x => !(G x).isEmpty).take k
    · simp [e]
    · simp [e]
  rw [h1]
  have hs := keysG_sorted G
  conv => lhs; arg 2; rw [← List.take_append_drop k (keysG G)]
  rw [List.filter_append]
  have e1 : ((keysG G).take k).filter (fun x => decide (x ∉ (keysG G).take k)) = [] := by
    rw [List.filter_eq_nil_iff]
    intro x hx
    simp [hx]
  have e2 : ((keysG G).drop k).filter (fun x => decide (x ∉ (keysG G).take k)) = (keysG G).drop k := by
    rw [List.filter_eq_self]
    intro x hx
    simp only [decide_eq_true_eq]
    intro hx2
    rw [← List.take_append_drop k (keysG G), List.pairwise_append] at hs
    have := hs.2.2 x hx2 x hx
    omega
  rw [e1, e2]
  rfl
theorem partRows_keys (xs cs : List Int) : (keysG (fun x => grp xs cs x)).map (fun x => grp xs cs x) = partRows xs cs := by
  unfold keysG partRows
  rw [List.filter_map]
  rfl
def keyAt (G : Nat → List Int) (k : Nat) : Nat := (keysG G).getD k 0
theorem keyAt_mem {G : Nat → List Int} {k : Nat} (h : k < (keysG G).length) : keyAt G k ∈ keysG G := by simp [keyAt, h]
theorem drop_keyAt {G : Nat → List Int} {k : Nat} (h : k < (keysG G).length) : (keysG G).drop k = keyAt G k :: (keysG G).drop (k + 1) := by
  rw [List.drop_eq_getElem_cons h]; simp [keyAt, h]
theorem leftG_least {G : Nat → List Int} {k : Nat} (h : k < (keysG G).length) : keyAt G k < 8 ∧ leftG G k (keyAt G k) ≠ [] ∧ ∀ x, x < keyAt G k → leftG G k x = [] := by
  have hk := leftG_keys G k
  rw [drop_keyAt h] at hk
  have hs := keysG_sorted (leftG G k)
  have hm : keyAt G k ∈ keysG (leftG G k) := by rw [hk]; exact List.mem_cons_self ..
  obtain ⟨h1, h2⟩ := keysG_mem.1 hm
  refine ⟨h1, h2, fun x hx => Classical.byContradiction fun hne => ?_⟩
  have hx' : x ∈ keysG (leftG G k) := keysG_mem.2 ⟨by omega, hne⟩
  rw [hk] at hs hx'
  rcases List.mem_cons.1 hx' with rfl | hx'
  · omega
  · have := (List.pairwise_cons.1 hs).1 x hx'
    omega
theorem take_keyAt {G : Nat → List Int} {k : Nat} (h : k < (keysG G).length) : (keysG G).take (k + 1) = (keysG G).take k ++ [keyAt G k] := by
  rw [List.take_succ_eq_append_getElem h]; simp [keyAt, h]
theorem leftG_succ {G : Nat → List Int} {k : Nat} (h : k < (keysG G).length) : upd (leftG G k) (keyAt G k) [] = leftG G (k + 1) := by
  funext x
  unfold leftG upd
  rw [take_keyAt h]
  simp only [List.mem_append, List.mem_singleton]
  by_cases e : x = keyAt G k
  · simp [e]
  · by_cases e2 : x ∈ (keysG G).take k <;> simp [e, e2]
theorem keyAt_ne {G : Nat → List Int} {i k : Nat} (hik : i < k) (h : k < (keysG G).length) : keyAt G i ≠ keyAt G k := by
  have := List.pairwise_iff_getElem.1 (keysG_sorted G) i k (by omega) h hik
  simp only [keyAt, List.getD_eq_getElem?_getD, List.getElem?_eq_getElem h, List.getElem?_eq_getElem (show i < (keysG G).length by omega), Option.getD_some]
  omega
/-- The rows in order. -/
def rowsG (G : Nat → List Int) (r : Nat → Rw) (k : Nat) : List Rw := ((keysG G).take k).map r
theorem length_rowsG {G : Nat → List Int} {r : Nat → Rw} {k : Nat} (h : k ≤ (keysG G).length) : (rowsG G r k).length = k := by simp [rowsG]; omega
theorem rowsG_succ {G : Nat → List Int} {r : Nat → Rw} {k : Nat} (h : k < (keysG G).length) : rowsG G r (k + 1) = rowsG G r k ++ [r (keyAt G k)] := by simp [rowsG, take_keyAt h]
theorem rowsG_at {G : Nat → List Int} {r : Nat → Rw} {i k : Nat} (hi : i < k) (h : k ≤ (keysG G).length) : nthR (rowsG G r k) i = r (keyAt G i) := by
  have h1 : i < (keysG G).length := by omega
  simp [nthR, rowsG, keyAt, hi, h1]
theorem rowsG_aside {G : Nat → List Int} {r : Nat → Rw} {k : Nat} (h : k < (keysG G).length) (hap : ∀ x y, x < 8 → y < 8 → x ≠ y → G x ≠ [] → G y ≠ [] → ∀ p q, (r x).a = some p → (r y).a = some q → p.block ≠ q.block) : Aside (rowsG G r k) (r (keyAt G k)).a := by
  intro i hi p q hp hq
  rw [length_rowsG (by omega)] at hi
  rw [rowsG_at hi (by omega)] at hp
  obtain ⟨a1, a2⟩ := keysG_mem.1 (keyAt_mem (G := G) (k := i) (by omega))
  obtain ⟨b1, b2⟩ := keysG_mem.1 (keyAt_mem h)
  exact hap _ _ a1 b1 (keyAt_ne hi h) a2 b2 p q hp hq
theorem nums_rowsG {G : Nat → List Int} {r : Nat → Rw} (hr : ∀ x, x < 8 → G x ≠ [] → (r x).xs = G x) : numsOf (rowsG G r (keysG G).length) = (keysG G).map G := by
  unfold numsOf rowsG
  rw [List.take_length, List.map_map]
  refine List.map_congr_left fun x hx => ?_
  obtain ⟨h1, h2⟩ := keysG_mem.1 hx
  exact hr x h1 h2

/-- Rows from B on; what lies before b stays. -/
def PostParts (B b : Nat) (w : World) (ls : List (List Int)) (e : Ending) (w' : World) : Prop := ∃ a q cap rs, e = .returned (.slice a q cap) ∧ OwnR w' B a q cap rs ∧ numsOf rs = ls ∧ Below b w w'
set_option maxHeartbeats 2000000 in
theorem takeAll_any (b B : Nat) (G : Nat → List Int) (r : Nat → Rw) (w : World) (h : PartsR w b B G r) (hB : B ≤ w.heap.size) :
    Calls Tryz.prog 25 #[.map (some b)] w (PostParts B b w ((keysG G).map G)) := by
  obtain ⟨p1, p2, p3, p4⟩ := id h
  have hbl := p1.lt
  have AP := hid p4
  have RX := hid (fun x (hx : x < 8) (hg : G x ≠ []) => (p3 x hx hg).1)
  have RL : Hid (∀ x, x < 8 → G x ≠ [] → BlkLt (r x).a w.heap.size) := hid (fun x hx hg => (p3 x hx hg).2.lt)
  have HQ := hid (keysG_le G)
  have hq8 := keysG_le G
  clear p2 p3 p4
  obtain ⟨q, hq⟩ : ∃ q, q = (keysG G).length := ⟨_, rfl⟩
  have QE := hid hq
  rw [← hq] at p1 hq8
  clear hq
  go_enter Tryz.func25, Tryz.ntmps25
  go_wp2_with (first | (at_len; refine wpList_len_pm _ rfl _ rfl b q (valF G r) rfl p1 ?_) | (at_make; refine wpList_make_rows _ rfl _ _ rfl q rfl rfl (by omega) ?_; intro a1 cap1 w1 hown1 hb1) | go_in)
  have hge1 := ownsRow_ge hown1.1
  have hp1 := h.below hb1 (Nat.le_refl _)
  have hsz1 := hb1.size
  have hbb1 : Below b w w1 := hb1.mono (by omega)
  have hown1' := hown1.mono hB
  clear p1 h hown1 hb1
  go_loopw [3] (fun o wr => ∃ (k : Nat) (a' : Option Addr) (cap' : Nat), k ≤ q ∧ o = .slice a' k cap' ∧ OwnR wr B a' k cap' (rowsG G r k) ∧ BlkGe a' w.heap.size ∧ PartsR wr b B (leftG G k) r ∧ w.heap.size ≤ wr.heap.size ∧ Below b w wr) (fun o _ => q - (match o with | .slice _ k _ => k | _ => 0))
  case atStart => exact ⟨0, a1, cap1, Nat.zero_le _, rfl, hown1', hge1, by rw [leftG_zero]; exact hp1, hsz1, hbb1⟩
  case round =>
    clear hown1' hge1 hp1 hsz1 hbb1
    obtain ⟨k, a', cap', hk, rfl, hown, hge, hp, hsz, hb⟩ := hrel
    have hpm := hp.1
    rw [leftG_keys, List.length_drop, ← QE.out] at hpm
    by_cases hlt : k < q
    · have hkl : k < (keysG G).length := by rw [← QE.out]; exact hlt
      obtain ⟨l1, l2, l3⟩ := leftG_least hkl
      obtain ⟨m1, m2⟩ := keysG_mem.1 (keyAt_mem hkl)
      have hrow := (hp.2.2.1 (keyAt G k) l1 l2).2
      have AS := hid (rowsG_aside hkl AP.out)
      have RS := hid (rowsG_succ (r := r) hkl)
      have LS := hid (leftG_succ hkl)
      have L2 := hid l2
      have L3 := hid l3
      have z1 : (0 : Int) < ((q - k : Nat) : Int) := by omega
      clear l2 l3 m2
      go_wp2_with (first | (at_len; refine wpList_len_pm _ rfl _ rfl b (q - k) _ rfl hpm ?_) | (go_at_call 58; refine (takeFirst_any b B (leftG G k) r (keyAt G k) _ hp l1 L2.out L3.out).mono ?_; rintro e w5 ⟨rfl, hp5, hg5⟩) | (at_builtin; refine wpList_append_rowA _ rfl _ _ rfl B w.heap.size _ _ _ _ _ _ _ _ rfl rfl (turned_rows hown hg5 (by have := hp5.2.1; omega)) (turned_own hrow hg5 (by have := hp5.2.1; omega)) AS.out (by omega) hge hB (Nat.le_trans hsz hg5.size) ?_; intro a6 cap6 w6 hown6 hge6 hb6) | go_in)
      rw [LS.out] at hp5
      have hp6 := hp5.belowB hb6 hbl (fun x hx hg => RL.out x hx (by
        intro e
        apply hg
        unfold leftG
        split
        · rfl
        · exact e))
      go_roundw
      case rel => exact ⟨k + 1, a6, cap6, by omega, rfl, by rw [RS.out]; exact hown6, hge6, hp6, Nat.le_trans (Nat.le_trans hsz hg5.size) hb6.size, (hb.grown hg5 (by omega) (fun j hj => by cases hj; exact Nat.le_refl _)).trans (hb6.mono (by omega))⟩
      case measure => simp; omega
    · obtain rfl : k = q := by omega
      have HN : Hid (numsOf (rowsG G r k) = (keysG G).map G) := hid (by rw [QE.out]; exact nums_rowsG RX.out)
      have z1 : ¬ (0 : Int) < ((k - k : Nat) : Int) := by omega
      go_wp2_with (first | (at_len; refine wpList_len_pm _ rfl _ rfl b (k - k) _ rfl hpm ?_) | go_in)
      go_ret
      exact ⟨a', k, cap', _, rfl, hown, HN.out, hb⟩
end Go.Proofs.YtnddplldkgphnaaGreat

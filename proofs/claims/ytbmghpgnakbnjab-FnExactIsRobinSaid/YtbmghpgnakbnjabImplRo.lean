/- Rings of robin hood: a key put in. -/
import Derived.Test.YtbmghpgnakbnjabImplFn
import Derived.Deep.DeepCutAuto
namespace Go.Proofs.Ytbmghpgnakbnjab
open Go.RowKit

theorem before_iff {n : Nat} {a b : Int} {c : Nat} : before n a b c = true ↔ costN n b c < costN n a c ∨ (costN n a c = costN n b c ∧ b < a) := by simp [before]

set_option maxRecDepth 100000 in
set_option maxHeartbeats 4000000 in
theorem goesBefore_any (n : Nat) (ps : List Int) (x y : Int) (c : Nat) (w : World) (hr : RingOf n ps) (hc : c < n) (hx : 0 ≤ x) (hy : 0 ≤ y) :
    Calls Try.prog 78 #[.agg (ivals ((n : Int) :: ps)), .int .i64 x, .int .i64 y, .int .i64 (c : Int)] w fun e w' => e = .returned (.bool (before n x y c)) ∧ Below w.heap.size w w' := by
  have R := ringAt_new w hr.all
  have hb := (Below.refl w.heap.size w).alloc (Nat.le_refl _) (.cells (ivals ((n : Int) :: ps)) 50)
  have HRS : Hid (RS w w.heap.size ((n : Int) :: ps) (w.alloc (.cells (ivals ((n : Int) :: ps)) 50))) := hid ⟨R, hb⟩
  have hv := ring_val (m := (n : Int)) hr.len
  obtain ⟨p, hp⟩ : ∃ p, costN n x c = p := ⟨_, rfl⟩
  obtain ⟨q, hq⟩ : ∃ q, costN n y c = q := ⟨_, rfl⟩
  have HP := hid hp
  have HQ := hid hq
  have hbi := before_iff (n := n) (a := x) (b := y) (c := c)
  rw [hp, hq] at hbi
  have HBI := hid hbi
  clear R hb hp hq hbi
  go_enter Try.func78, Try.ntmps78
  go_wp2_with fail
  go_cut [9, 10] (fun s t wx => s = .int .i64 (p : Int) ∧ t = .int .i64 (q : Int) ∧ Below w.heap.size w wx)
  case first =>
    go_region_held3 (fun w' => RS w w.heap.size ((n : Int) :: ps) w' ∧ w'.cell? ⟨w.heap.size, 0, none⟩ = some (.int .i64 (n : Int)) ∧ w'.cell? ⟨w.heap.size, 1, none⟩ = some (.int .i64 (nth ps 0)) ∧ w'.cell? ⟨w.heap.size, 2, none⟩ = some (.int .i64 (nth ps 1)) ∧ w'.cell? ⟨w.heap.size, 3, none⟩ = some (.int .i64 (nth ps 2)) ∧ w'.cell? ⟨w.heap.size, 4, none⟩ = some (.int .i64 (nth ps 3)) ∧ w'.cell? ⟨w.heap.size, 5, none⟩ = some (.int .i64 (nth ps 4)) ∧ w'.cell? ⟨w.heap.size, 6, none⟩ = some (.int .i64 (nth ps 5)) ∧ w'.cell? ⟨w.heap.size, 7, none⟩ = some (.int .i64 (nth ps 6)) ∧ w'.cell? ⟨w.heap.size, 8, none⟩ = some (.int .i64 (nth ps 7)) ∧ w'.cell? ⟨w.heap.size, 9, none⟩ = some (.int .i64 (nth ps 8)) ∧ w'.cell? ⟨w.heap.size, 10, none⟩ = some (.int .i64 (nth ps 9)) ∧ w'.cell? ⟨w.heap.size, 11, none⟩ = some (.int .i64 (nth ps 10)) ∧ w'.cell? ⟨w.heap.size, 12, none⟩ = some (.int .i64 (nth ps 11))) (first | exact RS.first HRS.out | exact RS.next (by assumption) (by assumption)) (first | (go_at_call 70; refine (costAt_any n ps c _ _ hr hc (by first | exact hx | exact hy)).mono ?_; (first | rw [HP.out] | rw [HQ.out]); rintro e w' ⟨rfl, hb'⟩))
    all_goals
      rename_i hS
      obtain ⟨hS, -⟩ := hS
      go_wp2_with fail
      go_meet
      exact ⟨rfl, rfl, hS.st⟩
  case rest =>
    obtain ⟨rfl, rfl, hb⟩ := hcut
    by_cases h1 : (q : Int) < (p : Int)
    · have HR : Hid (before n x y c = true) := hid (HBI.out.2 (.inl (by omega)))
      go_wp2_with fail
      go_ret
      exact ⟨ret_bool (by rw [HR.out]), hb⟩
    · by_cases h2 : p = q
      · obtain rfl := h2
        by_cases h3 : y < x
        · have HR : Hid (before n x y c = true) := hid (HBI.out.2 (.inr ⟨rfl, h3⟩))
          go_wp2_with fail
          go_ret
          exact ⟨ret_bool (by rw [HR.out]), hb⟩
        · have HR : Hid (before n x y c = false) := hid (Bool.eq_false_iff.2 fun hh => by rcases HBI.out.1 hh with h | h <;> omega)
          go_wp2_with fail
          go_ret
          exact ⟨ret_bool (by rw [HR.out]), hb⟩
      · have HR : Hid (before n x y c = false) := hid (Bool.eq_false_iff.2 fun hh => by rcases HBI.out.1 hh with h | h <;> omega)
        have h4 : ((p : Int) == (q : Int)) = false := by simp; omega
        go_wp2_with fail
        go_ret
        exact ⟨ret_bool (by rw [HR.out]), hb⟩

theorem next_toNat (c n : Nat) : (((c : Int) + 1) % (n : Int)).toNat = (c + 1) % n := by rw [show ((c : Int) + 1) = ((c + 1 : Nat) : Int) by omega, ← Int.natCast_emod, Int.toNat_natCast]
/-- On the way of what is in hand. -/
structure Rb (n q : Nat) (R cs : List Int) (hand : Int) (c : Nat) : Prop where
  len : cs.length = n
  lt : c < n
  free : freeAt cs q
  h0 : 0 ≤ hand
  bd : ∀ i, i < n → -1 ≤ nth cs i
  at_ : ∃ f, wayN n c q ≤ f ∧ robGo n f cs hand c = R
theorem Rb.stop {n q : Nat} {R cs : List Int} {hand : Int} {c : Nat} (h : Rb n q R cs hand c) (hc : nth cs c = -1) : cs.set c hand = R := by
  obtain ⟨f, _, h2⟩ := h.at_
  rw [robGo_end hc] at h2
  exact h2
theorem Rb.ne {n q : Nat} {R cs : List Int} {hand : Int} {c : Nat} (h : Rb n q R cs hand c) (hc : nth cs c ≠ -1) : c ≠ q := fun e => hc (e ▸ h.free.2)
theorem Rb.step {n q : Nat} {R cs : List Int} {hand : Int} {c : Nat} (h : Rb n q R cs hand c) (hc : nth cs c ≠ -1) : wayN n c q = wayN n ((c + 1) % n) q + 1 := way_step h.lt (by have := h.free.1; have := h.len; omega) (h.ne hc)
theorem Rb.keep {n q : Nat} {R cs : List Int} {hand : Int} {c : Nat} (h : Rb n q R cs hand c) (hc : nth cs c ≠ -1) (hb : before n hand (nth cs c) c = false) : Rb n q R cs hand ((c + 1) % n) := by
  have hst := h.step hc
  obtain ⟨f, h1, h2⟩ := h.at_
  refine ⟨h.len, Nat.mod_lt _ (by have := h.lt; omega), h.free, h.h0, h.bd, ?_⟩
  cases f with
  | zero => omega
  | succ f => exact ⟨f, by omega, by rw [← h2, robGo_keep hc hb]⟩
theorem Rb.swap {n q : Nat} {R cs : List Int} {hand : Int} {c : Nat} (h : Rb n q R cs hand c) (hc : nth cs c ≠ -1) (hb : before n hand (nth cs c) c = true) : Rb n q R (cs.set c hand) (nth cs c) ((c + 1) % n) := by
  have hst := h.step hc
  have hl := h.len
  have hlt := h.lt
  have hne := h.ne hc
  obtain ⟨f, h1, h2⟩ := h.at_
  refine ⟨by simp [hl], Nat.mod_lt _ (by omega), ⟨by simp; exact h.free.1, by rw [nth_set (by omega), if_neg hne]; exact h.free.2⟩, by have := h.bd c hlt; omega, ?_, ?_⟩
  · intro i hi
    rw [nth_set (by omega)]
    split
    · have := h.h0; omega
    · exact h.bd i hi
  · cases f with
    | zero => omega
    | succ f => exact ⟨f, by omega, by rw [← h2, robGo_swap hc hb]⟩
theorem Rb.start {n q : Nat} {cs : List Int} {key : Int} (hl : cs.length = n) (hq : freeAt cs q) (h0 : 0 ≤ key) (hb : ∀ i, i < n → -1 ≤ nth cs i) : Rb n q (robIn cs key) cs key (ownN n key) := by
  have hn : 0 < n := by have := hq.1; omega
  refine ⟨hl, own_lt hn, hq, h0, hb, n, Nat.le_of_lt (way_lt hn), ?_⟩
  unfold robIn
  rw [hl]

theorem length_robGo {n : Nat} : ∀ (f : Nat) (cs : List Int) (hand : Int) (c : Nat), (robGo n f cs hand c).length = cs.length
  | 0, cs, hand, c => by simp [robGo]
  | f + 1, cs, hand, c => by
    simp only [robGo]
    split
    · simp
    · split
      · rw [length_robGo]; simp
      · rw [length_robGo]
theorem length_robIn (cs : List Int) (key : Int) : (robIn cs key).length = cs.length := length_robGo _ _ _ _
theorem rs_outC {w w1 : World} {g : Nat} {cs : List Int} {c : Nat} (h : RS w g (ringL cs) w1) (hc : c < cs.length) (h12 : cs.length ≤ 12) : RS w g (ringL cs) w1 ∧ w1.cell? ⟨g, 1 + c, none⟩ = some (.int .i64 (nth cs c)) ∧ w1.cell? ⟨g, 0, none⟩ = some (.int .i64 (cs.length : Int)) ∧ w1.cell? ⟨g, 1, none⟩ = some (.int .i64 (nth (pad cs) 0)) ∧ w1.cell? ⟨g, 2, none⟩ = some (.int .i64 (nth (pad cs) 1)) ∧ w1.cell? ⟨g, 3, none⟩ = some (.int .i64 (nth (pad cs) 2)) ∧ w1.cell? ⟨g, 4, none⟩ = some (.int .i64 (nth (pad cs) 3)) ∧ w1.cell? ⟨g, 5, none⟩ = some (.int .i64 (nth (pad cs) 4)) ∧ w1.cell? ⟨g, 6, none⟩ = some (.int .i64 (nth (pad cs) 5)) ∧ w1.cell? ⟨g, 7, none⟩ = some (.int .i64 (nth (pad cs) 6)) ∧ w1.cell? ⟨g, 8, none⟩ = some (.int .i64 (nth (pad cs) 7)) ∧ w1.cell? ⟨g, 9, none⟩ = some (.int .i64 (nth (pad cs) 8)) ∧ w1.cell? ⟨g, 10, none⟩ = some (.int .i64 (nth (pad cs) 9)) ∧ w1.cell? ⟨g, 11, none⟩ = some (.int .i64 (nth (pad cs) 10)) ∧ w1.cell? ⟨g, 12, none⟩ = some (.int .i64 (nth (pad cs) 11)) := by
  exact ⟨h, ring_cell h.ring hc h12, ring_out h.ring⟩
theorem rs_firstC {w w1 : World} {g : Nat} {cs : List Int} {c : Nat} (h : RS w g (ringL cs) w1) (hc : c < cs.length) (h12 : cs.length ≤ 12) : RS w g (ringL cs) w1.drew ∧ w1.drew.cell? ⟨g, 1 + c, none⟩ = some (.int .i64 (nth cs c)) ∧ w1.drew.cell? ⟨g, 0, none⟩ = some (.int .i64 (cs.length : Int)) ∧ w1.drew.cell? ⟨g, 1, none⟩ = some (.int .i64 (nth (pad cs) 0)) ∧ w1.drew.cell? ⟨g, 2, none⟩ = some (.int .i64 (nth (pad cs) 1)) ∧ w1.drew.cell? ⟨g, 3, none⟩ = some (.int .i64 (nth (pad cs) 2)) ∧ w1.drew.cell? ⟨g, 4, none⟩ = some (.int .i64 (nth (pad cs) 3)) ∧ w1.drew.cell? ⟨g, 5, none⟩ = some (.int .i64 (nth (pad cs) 4)) ∧ w1.drew.cell? ⟨g, 6, none⟩ = some (.int .i64 (nth (pad cs) 5)) ∧ w1.drew.cell? ⟨g, 7, none⟩ = some (.int .i64 (nth (pad cs) 6)) ∧ w1.drew.cell? ⟨g, 8, none⟩ = some (.int .i64 (nth (pad cs) 7)) ∧ w1.drew.cell? ⟨g, 9, none⟩ = some (.int .i64 (nth (pad cs) 8)) ∧ w1.drew.cell? ⟨g, 10, none⟩ = some (.int .i64 (nth (pad cs) 9)) ∧ w1.drew.cell? ⟨g, 11, none⟩ = some (.int .i64 (nth (pad cs) 10)) ∧ w1.drew.cell? ⟨g, 12, none⟩ = some (.int .i64 (nth (pad cs) 11)) := rs_outC h.drew hc h12
theorem rs_nextC {w w1 w2 : World} {g : Nat} {cs : List Int} {c : Nat} {p : Prop} (h : RS w g (ringL cs) w1 ∧ p) (hb : Below w1.heap.size w1 w2) (hc : c < cs.length) (h12 : cs.length ≤ 12) : RS w g (ringL cs) w2 ∧ w2.cell? ⟨g, 1 + c, none⟩ = some (.int .i64 (nth cs c)) ∧ w2.cell? ⟨g, 0, none⟩ = some (.int .i64 (cs.length : Int)) ∧ w2.cell? ⟨g, 1, none⟩ = some (.int .i64 (nth (pad cs) 0)) ∧ w2.cell? ⟨g, 2, none⟩ = some (.int .i64 (nth (pad cs) 1)) ∧ w2.cell? ⟨g, 3, none⟩ = some (.int .i64 (nth (pad cs) 2)) ∧ w2.cell? ⟨g, 4, none⟩ = some (.int .i64 (nth (pad cs) 3)) ∧ w2.cell? ⟨g, 5, none⟩ = some (.int .i64 (nth (pad cs) 4)) ∧ w2.cell? ⟨g, 6, none⟩ = some (.int .i64 (nth (pad cs) 5)) ∧ w2.cell? ⟨g, 7, none⟩ = some (.int .i64 (nth (pad cs) 6)) ∧ w2.cell? ⟨g, 8, none⟩ = some (.int .i64 (nth (pad cs) 7)) ∧ w2.cell? ⟨g, 9, none⟩ = some (.int .i64 (nth (pad cs) 8)) ∧ w2.cell? ⟨g, 10, none⟩ = some (.int .i64 (nth (pad cs) 9)) ∧ w2.cell? ⟨g, 11, none⟩ = some (.int .i64 (nth (pad cs) 10)) ∧ w2.cell? ⟨g, 12, none⟩ = some (.int .i64 (nth (pad cs) 11)) := rs_outC (h.1.step hb) hc h12
set_option maxRecDepth 100000 in
set_option maxHeartbeats 4000000 in
theorem robin_any (cs : List Int) (key : Int) (q : Nat) (w : World) (hr : Rg cs) (h0 : 0 ≤ key) (hq : freeAt cs q) (hbd : ∀ i, i < cs.length → -1 ≤ nth cs i) :
    Calls Try.prog 55 #[.agg (ivals (ringL cs)), .int .i64 key] w fun e w' => e = .returned (.agg (ivals (ringL (robIn cs key)))) ∧ Below w.heap.size w w' := by
  have HB0 := hid (Rb.start rfl hq h0 hbd)
  have h12 := hr.hi
  obtain ⟨W, hW, R, Z, hbW, hsW⟩ : ∃ W, (w.alloc (.cells (ivals (ringL cs)) 50)).alloc (.cells #[.int .i64 0, .int .i64 0, .int .i64 0, .int .i64 0, .int .i64 0, .int .i64 0, .int .i64 0, .int .i64 0, .int .i64 0, .int .i64 0, .int .i64 0, .int .i64 0, .int .i64 0] 50) = W ∧ RingAt W w.heap.size (ringL cs) ∧ RingAt W (w.heap.size + 1) zeroR ∧ Below w.heap.size w W ∧ W.heap.size = w.heap.size + 2 := by
    refine ⟨_, rfl, (ringAt_new w hr.all).alloc _, ?_, ((Below.refl _ w).alloc (Nat.le_refl _) _).alloc (by simp) _, by simp⟩
    have := ringAt_zero (w.alloc (.cells (ivals (ringL cs)) 50))
    simpa using this
  have HLR : Hid ((ringL (robIn cs key)).length = 13) := hid (Rg.mk (by
    have : (robIn cs key).length = cs.length := length_robIn cs key
    rw [this]; exact hr.lo) (by rw [length_robIn]; exact h12)).all
  go_enter Try.func55, Try.ntmps55
  go_wp2_with (first | (refine wpList_load_ring rfl _ rfl _ _ rfl R ?_) | (go_at_call 63; refine (ownCell_any cs.length (pad cs) key _ hr.of h0).mono ?_; rintro e w1 ⟨rfl, st⟩))
  have R1 := R.below st R.lt
  have Z1 := Z.below st Z.lt
  have hb1 := hbW.trans (st.mono (by omega))
  clear st hW R Z hbW
  go_loopw [5, 6] (fun s t wr => ∃ (cs' : List Int) (hand : Int) (c : Nat), s = .int .i64 hand ∧ t = .int .i64 (c : Int) ∧ Hid (Rb cs.length q (robIn cs key) cs' hand c) ∧ RingAt wr w.heap.size (ringL cs') ∧ RingAt wr (w.heap.size + 1) zeroR ∧ Below w.heap.size w wr) (fun _ t _ => wayN cs.length (intOf t).toNat q)
  case atStart => exact ⟨cs, key, _, rfl, rfl, HB0, R1, Z1, hb1⟩
  case round =>
    clear R1 Z1 hb1
    obtain ⟨cs', hand, c, rfl, rfl, HB, R, Z, hb⟩ := hrel
    have hlen := HB.out.len
    have hc := HB.out.lt
    have hh0 := HB.out.h0
    have hrg : Rg cs' := ⟨by omega, by omega⟩
    have hcl : c < cs'.length := by omega
    have h12' : cs'.length ≤ 12 := by omega
    have hcell := ring_cell R hcl (by omega)
    have hfr := R.frozen (1 + c)
    have hc0 : (0 : Int) ≤ (c : Int) := by omega
    have hc12 : (c : Int) < 12 := by omega
    by_cases he : nth cs' c = -1
    · have hb1 : (nth cs' c != -1) = false := by simp [he]
      have hset := HB.out.stop he
      have R2 := R.put hcl hand
      rw [hset] at R2
      have Z2 := Z.setOther (a := ⟨w.heap.size, 1 + c, none⟩) (by simp) (.int .i64 hand)
      have hb2 := hb.setCell (p := ⟨w.heap.size, 1 + c, none⟩) (Nat.le_refl _) (.int .i64 hand)
      clear he hset hlen
      go_wp2_with (first | (refine wpList_load_ring rfl _ rfl _ _ rfl R2 ?_) | (refine wpList_store_ring rfl _ _ rfl _ _ _ rfl rfl Z2 HLR.out ?_))
      refine bodyPost_ret (v := .agg (ivals (ringL (robIn cs key)))) (results_ring1 rfl _ _ _ _ rfl (Z2.row HLR.out)) rfl ⟨rfl, below_row hb2 (by omega) _⟩
    · have hb1 : (nth cs' c != -1) = true := by simp [he]
      have hy : 0 ≤ nth cs' c := by have := HB.out.bd c hc; omega
      have hst := HB.out.step he
      have HE := hid he
      have hv := ring_val (m := (cs'.length : Int)) hrg.of.len
      have HRS : Hid (RS wr w.heap.size (ringL cs') wr) := hid ⟨R, Below.refl _ _⟩
      have HLN := hid hlen
      clear he hlen
      obtain ⟨wo, hwo⟩ : ∃ wo : World, wo = wr := ⟨_, rfl⟩
      subst hwo
      go_wp2_with fail
      go_cut [23] (fun s wx => s = .bool (before cs'.length hand (nth cs' c) c) ∧ Below wo.heap.size wo wx)
      case first =>
        go_region_held3 (fun w' => RS wo w.heap.size (ringL cs') w' ∧ w'.cell? ⟨w.heap.size, 1 + c, none⟩ = some (.int .i64 (nth cs' c)) ∧ w'.cell? ⟨w.heap.size, 0, none⟩ = some (.int .i64 (cs'.length : Int)) ∧ w'.cell? ⟨w.heap.size, 1, none⟩ = some (.int .i64 (nth (pad cs') 0)) ∧ w'.cell? ⟨w.heap.size, 2, none⟩ = some (.int .i64 (nth (pad cs') 1)) ∧ w'.cell? ⟨w.heap.size, 3, none⟩ = some (.int .i64 (nth (pad cs') 2)) ∧ w'.cell? ⟨w.heap.size, 4, none⟩ = some (.int .i64 (nth (pad cs') 3)) ∧ w'.cell? ⟨w.heap.size, 5, none⟩ = some (.int .i64 (nth (pad cs') 4)) ∧ w'.cell? ⟨w.heap.size, 6, none⟩ = some (.int .i64 (nth (pad cs') 5)) ∧ w'.cell? ⟨w.heap.size, 7, none⟩ = some (.int .i64 (nth (pad cs') 6)) ∧ w'.cell? ⟨w.heap.size, 8, none⟩ = some (.int .i64 (nth (pad cs') 7)) ∧ w'.cell? ⟨w.heap.size, 9, none⟩ = some (.int .i64 (nth (pad cs') 8)) ∧ w'.cell? ⟨w.heap.size, 10, none⟩ = some (.int .i64 (nth (pad cs') 9)) ∧ w'.cell? ⟨w.heap.size, 11, none⟩ = some (.int .i64 (nth (pad cs') 10)) ∧ w'.cell? ⟨w.heap.size, 12, none⟩ = some (.int .i64 (nth (pad cs') 11))) (first | exact rs_firstC HRS.out hcl h12' | exact rs_nextC (by assumption) (by assumption) hcl h12') (first | (go_at_call 78; refine (goesBefore_any cs'.length (pad cs') hand (nth cs' c) c _ hrg.of hcl hh0 hy).mono ?_; rintro e w' ⟨rfl, hb'⟩))
        all_goals
          rename_i hS
          obtain ⟨hS, -⟩ := hS
          go_wp2_with fail
          go_meet
          exact ⟨rfl, hS.st⟩
      case rest =>
        obtain ⟨rfl, st⟩ := hcut
        have R2 := R.below st R.lt
        have Z2 := Z.below st Z.lt
        have hs2 := st.size
        have hb2 := hb.trans (st.mono hb.size)
        have hcell2 := ring_cell R2 hcl h12'
        have hfr2 := R2.frozen (1 + c)
        clear hcell hfr R Z hb st
        by_cases hbf : before cs'.length hand (nth cs' c) c = true
        · have HS := hid (HB.out.swap HE.out (by rw [← HLN.out]; exact hbf))
          rw [hbf]
          have R3 := R2.put hcl hand
          have Z3 := Z2.setOther (a := ⟨w.heap.size, 1 + c, none⟩) (by simp) (.int .i64 hand)
          have hb3 := hb2.setCell (p := ⟨w.heap.size, 1 + c, none⟩) (Nat.le_refl _) (.int .i64 hand)
          have hrg3 := hrg.set c hand
          have hc3 : c < (cs'.set c hand).length := by simpa using hcl
          have HL3 : Hid ((cs'.set c hand).length = cs'.length) := hid (by simp)
          clear hbf
          go_wp2_with (refine wpList_load_ring rfl _ rfl _ _ rfl R3 ?_)
          refine (behind_any (cs'.set c hand).length (pad (cs'.set c hand)) c _ hrg3.of hc3).mono ?_
          rintro e w5 ⟨rfl, st⟩
          have s5 := st.size
          rw [HL3.out, HLN.out]
          go_wp2_with fail
          go_roundw
          case rel => exact ⟨_, _, _, rfl, rfl, HS, R3.below st R3.lt, Z3.below st Z3.lt, hb3.trans (st.mono (by have := hb3.size; omega))⟩
          case measure => simp only [intOf, Int.toNat_natCast, next_toNat]; omega
        · have HS := hid (HB.out.keep HE.out (by rw [← HLN.out]; exact Bool.eq_false_iff.2 hbf))
          rw [Bool.eq_false_iff.2 hbf]
          clear hbf
          go_wp2_with (refine wpList_load_ring rfl _ rfl _ _ rfl R2 ?_)
          refine (behind_any cs'.length (pad cs') c _ hrg.of hcl).mono ?_
          rintro e w5 ⟨rfl, st⟩
          have s5 := st.size
          rw [HLN.out]
          go_wp2_with fail
          go_roundw
          case rel => exact ⟨_, _, _, rfl, rfl, HS, R2.below st R2.lt, Z2.below st Z2.lt, hb2.trans (st.mono (by have := hb2.size; omega))⟩
          case measure => simp only [intOf, Int.toNat_natCast, next_toNat]; omega
end Go.Proofs.Ytbmghpgnakbnjab

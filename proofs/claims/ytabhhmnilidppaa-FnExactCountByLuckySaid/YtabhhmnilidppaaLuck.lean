/- Counts by lucky cars: the model's and the program's function, by their contracts. -/
import Derived.Test.YtabhhmnilidppaaImplN
namespace Go.Proofs.Ytabhhmnilidppaa
open Go.RowKit

/-- The coefficients behind j factors. -/
def LTab (n j : Nat) (ys : List Int) : Prop := ∀ l, l ≤ n → nth ys l = (lucky n j l : Int)
/-- The next ones, as far as k of those are laid out. -/
def LPart (n j k : Nat) (zs : List Int) : Prop := ∀ l, l ≤ n → nth zs l = (((if l < k then (j + 1) * lucky n j l else 0) + (if 1 ≤ l ∧ l ≤ k then (n - j) * lucky n j (l - 1) else 0) : Nat) : Int)
/-- The next ones down to behind l. -/
def LDown (n j l : Nat) (zs : List Int) : Prop := ∀ x, x ≤ n → nth zs x = if l < x then (lucky n (j + 1) x : Int) else (lucky n j x : Int)
theorem lt_first (n : Nat) : LTab n 0 ((List.replicate (n + 1) 0).set 1 1) ∨ n = 0 := by
  by_cases h : n = 0
  · exact .inr h
  · refine .inl fun l hl => ?_
    rw [nth_set (by simp; omega), nth_replicate0]
    by_cases e : 1 = l
    · subst e; rfl
    · rw [if_neg e]; simp only [lucky]; rw [if_neg (fun h => e h.symm)]; rfl
theorem lp_first (n j : Nat) : LPart n j 0 (List.replicate (n + 1) 0) := fun l _ => by
  rw [nth_replicate0, if_neg (Nat.not_lt_zero l), if_neg (show ¬ (1 ≤ l ∧ l ≤ 0) by omega)]
  rfl
theorem lp_one {n j k : Nat} {ys zs : List Int} (h : LPart n j k zs) (hy : LTab n j ys) (hl : zs.length = n + 1) (hk : k ≤ n) :
    ∀ l, l ≤ n → nth (zs.set k (nth zs k + ((j : Int) + 1) * nth ys k)) l = (((if l < k + 1 then (j + 1) * lucky n j l else 0) + (if 1 ≤ l ∧ l ≤ k then (n - j) * lucky n j (l - 1) else 0) : Nat) : Int) := fun l hln => by
  rw [nth_set (by omega)]
  by_cases e : k = l
  · subst e
    rw [if_pos rfl, h k hk, hy k hk, if_neg (Nat.lt_irrefl k), if_pos (Nat.lt_succ_self k), show (j : Int) + 1 = ((j + 1 : Nat) : Int) by omega, ← Int.natCast_mul]
    omega
  · rw [if_neg e, h l hln]
    have : (l < k) = (l < k + 1) := by apply propext; omega
    simp only [this]
theorem lp_two {n j k : Nat} {ys zs : List Int} (h : ∀ l, l ≤ n → nth zs l = (((if l < k + 1 then (j + 1) * lucky n j l else 0) + (if 1 ≤ l ∧ l ≤ k then (n - j) * lucky n j (l - 1) else 0) : Nat) : Int)) (hy : LTab n j ys) (hl : zs.length = n + 1) (hk : k < n) (hj : j < n) :
    LPart n j (k + 1) (zs.set (k + 1) (nth zs (k + 1) + ((n : Int) - ((j : Int) + 1) + 1) * nth ys k)) := fun l hln => by
  rw [nth_set (by omega)]
  by_cases e : k + 1 = l
  · subst e
    rw [if_pos rfl, h _ hln, hy k (by omega), if_neg (show ¬ (1 ≤ k + 1 ∧ k + 1 ≤ k) by omega), if_pos (show 1 ≤ k + 1 ∧ k + 1 ≤ k + 1 by omega), if_neg (Nat.lt_irrefl (k + 1)), Nat.add_sub_cancel]
    rw [show (n : Int) - ((j : Int) + 1) + 1 = ((n - j : Nat) : Int) by omega]
    simp only [Int.natCast_add, Int.natCast_mul]
    simp
  · rw [if_neg e, h l hln]
    have : (1 ≤ l ∧ l ≤ k) = (1 ≤ l ∧ l ≤ k + 1) := by apply propext; omega
    simp only [this]
theorem lp_skip {n j : Nat} {zs : List Int} (h : ∀ l, l ≤ n → nth zs l = (((if l < n + 1 then (j + 1) * lucky n j l else 0) + (if 1 ≤ l ∧ l ≤ n then (n - j) * lucky n j (l - 1) else 0) : Nat) : Int)) : LTab n (j + 1) zs := fun l hl => by
  rw [h l hl, if_pos (show l < n + 1 by omega)]
  cases l with
  | zero => rw [if_neg (show ¬ (1 ≤ 0 ∧ 0 ≤ n) by omega), lucky_zero]; simp [lucky]
  | succ l => rw [if_pos (show 1 ≤ l + 1 ∧ l + 1 ≤ n by omega)]; rfl
theorem lt_le {n j : Nat} {ys : List Int} (h : LTab n j ys) (h8 : n ≤ 8) (hj : j < n) {l : Nat} (hl : l ≤ n) : 0 ≤ nth ys l ∧ nth ys l ≤ 4782969 := by
  rw [h l hl]
  have := lucky_le n (by omega) j hj l (by omega)
  omega
theorem lp_le {n j k : Nat} {zs : List Int} (h : LPart n j k zs) (h8 : n ≤ 8) (hj : j < n) {l : Nat} (hl : l ≤ n) : 0 ≤ nth zs l ∧ nth zs l ≤ 100000000 := by
  rw [h l hl]
  have h1 := Nat.mul_le_mul (show j + 1 ≤ 8 by omega) (lucky_le n (by omega) j hj l (by omega))
  have h2 := Nat.mul_le_mul (show n - j ≤ 8 by omega) (lucky_le n (by omega) j hj (l - 1) (by omega))
  split <;> split <;> omega
theorem times_le {x y : Int} (h0 : 0 ≤ x) (h1 : x ≤ 8) (g0 : 0 ≤ y) (g1 : y ≤ 4782969) : 0 ≤ x * y ∧ x * y ≤ 38263752 := by
  refine ⟨Int.mul_nonneg h0 g0, ?_⟩
  have := Int.mul_le_mul h1 g1 g0 (by omega)
  omega
theorem ld_first {n j : Nat} {ys : List Int} (h : LTab n j ys) : LDown n j n ys := fun x hx => by rw [if_neg (by omega), h x hx]
theorem ld_step {n j l : Nat} {zs : List Int} (h : LDown n j (l + 1) zs) (hl : zs.length = n + 1) (hn : l + 1 ≤ n) (hj : j < n) :
    LDown n j l (zs.set (l + 1) (((j : Int) + 1) * nth zs (l + 1) + ((n : Int) - ((j : Int) + 1) + 1) * nth zs l)) := fun x hx => by
  rw [nth_set (by omega)]
  by_cases e : l + 1 = x
  · subst e
    rw [if_pos rfl, if_pos (by omega), h (l + 1) hn, h l (by omega), if_neg (by omega), if_neg (by omega)]
    rw [show (n : Int) - ((j : Int) + 1) + 1 = ((n - j : Nat) : Int) by omega, show (j : Int) + 1 = ((j + 1 : Nat) : Int) by omega, ← Int.natCast_mul, ← Int.natCast_mul, ← Int.natCast_add]
    rfl
  · rw [if_neg e, h x hx]
    have : (l + 1 < x) = (l < x) := by apply propext; omega
    simp only [this]
theorem ld_done {n j : Nat} {zs : List Int} (h : LDown n j 0 zs) : LTab n (j + 1) zs := fun x hx => by
  rw [h x hx]
  cases x with
  | zero => rw [if_neg (by omega), lucky_zero, lucky_zero]
  | succ x => rw [if_pos (by omega)]
theorem ld_le {n j l : Nat} {zs : List Int} (h : LDown n j l zs) (h8 : n ≤ 8) (hj : j + 1 < n) {x : Nat} (hx : x ≤ n) : 0 ≤ nth zs x ∧ nth zs x ≤ 4782969 := by
  rw [h x hx]
  have h1 := lucky_le n (by omega) j (by omega) x (by omega)
  have h2 := lucky_le n (by omega) (j + 1) (by omega) x (by omega)
  split <;> omega
theorem lt_list {n : Nat} {ys : List Int} (h : LTab n (n - 1) ys) (hl : ys.length = n + 1) : ((List.range (n + 1)).map fun (l : Nat) => (lucky n (n - 1) l : Int)) = ys := by
  refine ext_nth (by simp [hl]) fun i hi => ?_
  simp at hi
  rw [h i (by omega)]
  simp [nth, show i < n + 1 by omega]
theorem luckyOfN_yes {n : Nat} (h : inB (n : Int) 1 8 = true) : luckyOfN n = (((List.range (n + 1)).map fun (l : Nat) => (lucky n (n - 1) l : Int)), true) := by simp [luckyOfN, h]
theorem luckyOfN_no {n : Int} (h : ¬ inB n 1 8 = true) : luckyOfN n = ([], false) := by simp [luckyOfN, h]

set_option maxRecDepth 100000 in
set_option maxHeartbeats 4000000 in
theorem specLuckyN_any (n : Int) (w : World) : Calls Try.prog 21 #[.int .i64 n] w (PostInts w (luckyOfN n)) := by
  by_cases hg : inB n 1 8 = true
  · obtain ⟨m, rfl⟩ : ∃ m : Nat, n = (m : Int) := ⟨n.toNat, by have := inB_iff.1 hg; omega⟩
    have hm : 1 ≤ m ∧ m ≤ 8 := by have := inB_iff.1 hg; omega
    obtain ⟨hm1, hm8⟩ := hm
    have HA := hid (luckyOfN_yes hg)
    have HG := hid hg
    obtain ⟨K, hK1, hK2⟩ : ∃ K, K ≤ m + 1 ∧ m + 1 ≤ K := ⟨m + 1, by omega, by omega⟩
    have HREP : Hid (List.replicate K (0 : Int) = List.replicate (m + 1) 0) := hid (by rw [show K = m + 1 by omega])
    have HF := hid ((lt_first m).resolve_right (by omega))
    have hK0 : (1 : Int) < (K : Int) := by omega
    clear hg
    go_enter Try.func21, Try.ntmps21
    go_wp2_with (first | (go_at_call 51; refine (l1In_any _ _ _ _).mono ?_; rintro e w' ⟨rfl, rfl⟩; rw [HG.out]) | (at_make; refine wpList_make_ints _ rfl _ _ rfl K (congrArg (Value.int .i64) (by omega)) (congrArg (Value.int .i64) (by omega)) (by omega) ?_; intro a1 cap1 w1 hown1 hb1; obtain ⟨g1, rfl, hg1, hg2, hg3, hg4⟩ := hown1.opened (by omega); have hgk := hg3 1 (by omega); have hgf := hg4 1; clear hg3 hg4))
    obtain ⟨s1, s2⟩ := hown1.set 1 1
    rw [HREP.out] at s1
    have hb2 := hb1.setCell (p := ⟨g1, 1, none⟩) hg1 (.int .i64 1)
    clear hown1 hb1 s2 hgk hgf
    generalize w1.setCell ⟨g1, 1, none⟩ (.int .i64 1) = w2 at *
    go_loopw [4, 5] (fun o i wr => ∃ (j : Nat) (a' : Option Addr) (cap' : Nat) (ys : List Int), j + 1 ≤ m ∧ i = .int .i64 ((j : Int) + 1) ∧ o = .slice a' K cap' ∧ Own wr w.heap.size a' K cap' ys ∧ Hid (LTab m j ys) ∧ Below w.heap.size w wr) (fun _ i _ => m - (intOf i).toNat)
    case atStart => exact ⟨0, some ⟨g1, 0, none⟩, cap1, _, hm1, rfl, rfl, s1, HF, hb2⟩
    case round =>
      clear s1 HF hb2 hg1 hg2
      obtain ⟨j, a', cap', ys, hj, rfl, rfl, hown, HT, hb⟩ := hrel
      obtain ⟨wo, hwo⟩ : ∃ wo : World, wo = wr := ⟨_, rfl⟩
      subst hwo
      by_cases hlt : j + 1 < m
      · have hlt' : (j : Int) + 1 < (m : Int) := by omega
        have hsz := hb.size
        have HZ0 := hid (lp_first m j)
        clear hlt
        go_wp2_with (at_make; refine wpList_make_ints _ rfl _ _ rfl K (congrArg (Value.int .i64) (by omega)) (congrArg (Value.int .i64) (by omega)) (by omega) ?_; intro a2 cap2 w3 hown3 hb3)
        rw [HREP.out] at hown3
        go_loopw [27] (fun i wr => ∃ (k : Nat) (zs : List Int), k ≤ K ∧ i = .int .i64 (k : Int) ∧ Own wr wo.heap.size a2 K cap2 zs ∧ Hid (if k = K then LTab m (j + 1) zs else LPart m j k zs) ∧ Below wo.heap.size wo wr) (fun i _ => K - (intOf i).toNat)
        case atStart => exact ⟨0, _, Nat.zero_le _, rfl, hown3, hid (by rw [if_neg (by omega)]; exact HZ0.out), hb3⟩
        case round =>
          clear hown3 hb3 HZ0
          obtain ⟨k, zs, hk, rfl, hz, HZ, hb4⟩ := hrel
          by_cases hkK : k < K
          · have HP : Hid (LPart m j k zs) := hid (by have := HZ.out; rw [if_neg (by omega)] at this; exact this)
            obtain ⟨-, -, -, -, hy4⟩ := hown.has
            obtain ⟨b, off, rfl, hbb, hc⟩ := hy4 (by omega)
            have hck : wr.cell? ⟨b, off + k, none⟩ = some (.int .i64 (nth ys k)) := by rw [hb4.cell (p := ⟨b, off + k, none⟩) hbb]; exact hc k hkK
            obtain ⟨y0, y1⟩ := lt_le HT.out hm8 (by omega) (l := k) (by omega)
            obtain ⟨g2, rfl, hg1, hg2, hg3, hg4⟩ := hz.opened (by omega)
            have hgk := hg3 k (by omega)
            have hgf := hg4 k
            obtain ⟨z0, z1⟩ := lp_le HP.out hm8 (by omega) (l := k) (by omega)
            obtain ⟨p0, p1⟩ := times_le (x := (j : Int) + 1) (by omega) (by omega) y0 y1
            have HONE := hid (lp_one HP.out HT.out (by rw [hz.len]; omega) (by omega))
            obtain ⟨s1, s2⟩ := hz.set k (nth zs k + ((j : Int) + 1) * nth ys k)
            have hb5 := hb4.setCell (p := ⟨g2, k, none⟩) hg1 (.int .i64 (nth zs k + ((j : Int) + 1) * nth ys k))
            have hkK' : (k : Int) < (K : Int) := by omega
            have hbg : b ≠ g2 := by omega
            clear hc hy4
            by_cases hkm : k < m
            · have hgk1 : (wr.setCell ⟨g2, k, none⟩ (.int .i64 (nth zs k + ((j : Int) + 1) * nth ys k))).cell? ⟨g2, k + 1, none⟩ = some (.int .i64 (nth zs (k + 1))) := by
                rw [World.cell?_setCell_other _ _ _ _ (by intro hh; injection hh with _ h5 _; omega)]
                exact hg3 (k + 1) (by omega)
              have hgf1 := hg4 (k + 1)
              obtain ⟨z2, z3⟩ := lp_le HP.out hm8 (by omega) (l := k + 1) (by omega)
              obtain ⟨q0, q1⟩ := times_le (x := (m : Int) - ((j : Int) + 1) + 1) (by omega) (by omega) y0 y1
              have hnz : nth (zs.set k (nth zs k + ((j : Int) + 1) * nth ys k)) (k + 1) = nth zs (k + 1) := by rw [nth_set (by rw [hz.len]; omega), if_neg (by omega)]
              have HTWO := hid (lp_two HONE.out HT.out (by rw [List.length_set, hz.len]; omega) hkm (by omega))
              rw [hnz] at HTWO
              obtain ⟨s3, s4⟩ := s1.set (k + 1) (nth zs (k + 1) + ((m : Int) - ((j : Int) + 1) + 1) * nth ys k)
              have hb6 := hb5.setCell (p := ⟨g2, k + 1, none⟩) hg1 (.int .i64 (nth zs (k + 1) + ((m : Int) - ((j : Int) + 1) + 1) * nth ys k))
              clear hnz hg3 hg4 s1 s2 s4 hz
              go_wp2_with fail
              go_roundw
              case rel => exact ⟨k + 1, _, by omega, by go_num, s3, hid (by rw [if_neg (by omega)]; exact HTWO.out), hb6⟩
              case measure => simp [intOf]; omega
            · have hke : k = m := by omega
              have HT' : Hid (LTab m (j + 1) (zs.set k (nth zs k + ((j : Int) + 1) * nth ys k))) := hid (lp_skip (by have := HONE.out; rw [hke] at this ⊢; exact this))
              clear hke hg3 hg4 s2 hz
              go_wp2_with fail
              go_roundw
              case rel => exact ⟨k + 1, _, by omega, by go_num, s1, hid (by rw [if_pos (by omega)]; exact HT'.out), hb5⟩
              case measure => simp [intOf]; omega
          · have HT' : Hid (LTab m (j + 1) zs) := hid (by have := HZ.out; rw [if_pos (by omega)] at this; exact this)
            go_wp2_with fail
            go_roundw
            case rel => exact ⟨j + 1, a2, cap2, zs, by omega, by go_num, rfl, hz.mono hsz, HT', hb.trans (hb4.mono hsz)⟩
            case measure => simp [intOf]; omega
      · have hje : m - 1 = j := by omega
        have HL : Hid (((List.range (m + 1)).map fun (l : Nat) => (lucky m (m - 1) l : Int)) = ys) := hid (lt_list (by rw [hje]; exact HT.out) (by rw [hown.len]; omega))
        have hlt' : ¬ (j : Int) + 1 < (m : Int) := by omega
        clear hje hlt
        go_wp2_with fail
        go_ret2
        exact postInts (by rw [HA.out, HL.out]) hown hb
  · have HA := hid (luckyOfN_no hg)
    have HG := hid hg
    clear hg
    go_enter Try.func21, Try.ntmps21
    go_wp2_with (go_at_call 51; refine (l1In_any _ _ _ _).mono ?_; rintro e w' ⟨rfl, rfl⟩; rw [Bool.eq_false_iff.2 HG.out])
    go_ret2
    exact postInts_no HA.out (Below.refl _ _)

set_option maxRecDepth 100000 in
set_option maxHeartbeats 4000000 in
theorem countByLucky_any (n : Int) (w : World) : Calls Try.prog 22 #[.int .i64 n] w (PostInts w (luckyOfN n)) := by
  by_cases h1 : 1 ≤ n
  · by_cases h2 : n ≤ 8
    · obtain ⟨m, rfl⟩ : ∃ m : Nat, n = (m : Int) := ⟨n.toNat, by omega⟩
      have hm1 : 1 ≤ m := by omega
      have hm8 : m ≤ 8 := by omega
      have HA := hid (luckyOfN_yes (inB_iff.2 ⟨h1, h2⟩))
      obtain ⟨K, hK1, hK2⟩ : ∃ K, K ≤ m + 1 ∧ m + 1 ≤ K := ⟨m + 1, by omega, by omega⟩
      have HREP : Hid (List.replicate K (0 : Int) = List.replicate (m + 1) 0) := hid (by rw [show K = m + 1 by omega])
      have HF := hid ((lt_first m).resolve_right (by omega))
      have hK0 : (1 : Int) < (K : Int) := by omega
      go_enter Try.func22, Try.ntmps22
      go_wp2_with (at_make; refine wpList_make_ints _ rfl _ _ rfl K (congrArg (Value.int .i64) (by omega)) (congrArg (Value.int .i64) (by omega)) (by omega) ?_; intro a1 cap1 w1 hown1 hb1; obtain ⟨g1, rfl, hg1, hg2, hg3, hg4⟩ := hown1.opened (by omega); have hgk := hg3 1 (by omega); have hgf := hg4 1; clear hg3 hg4)
      obtain ⟨s1, s2⟩ := hown1.set 1 1
      rw [HREP.out] at s1
      have hb2 := hb1.setCell (p := ⟨g1, 1, none⟩) hg1 (.int .i64 1)
      clear hown1 hb1 s2 hgk hgf
      generalize w1.setCell ⟨g1, 1, none⟩ (.int .i64 1) = w2 at *
      go_loopw [5] (fun i wr => ∃ (j : Nat) (ys : List Int), j + 1 ≤ m ∧ i = .int .i64 ((j : Int) + 1) ∧ Own wr w.heap.size (some ⟨g1, 0, none⟩) K cap1 ys ∧ Hid (LTab m j ys) ∧ Below w.heap.size w wr) (fun i _ => m - (intOf i).toNat)
      case atStart => exact ⟨0, _, hm1, rfl, s1, HF, hb2⟩
      case round =>
        clear s1 HF hb2
        obtain ⟨j, ys, hj, rfl, hown, HT, hb⟩ := hrel
        obtain ⟨wo, hwo⟩ : ∃ wo : World, wo = wr := ⟨_, rfl⟩
        subst hwo
        by_cases hlt : j + 1 < m
        · have hlt' : (j : Int) + 1 < (m : Int) := by omega
          have HD0 := hid (ld_first HT.out)
          go_wp2_with fail
          go_loopw [6] (fun i wr => ∃ (l : Nat) (zs : List Int), l ≤ m ∧ i = .int .i64 (l : Int) ∧ Own wr w.heap.size (some ⟨g1, 0, none⟩) K cap1 zs ∧ Hid (LDown m j l zs) ∧ Below w.heap.size w wr) (fun i _ => (intOf i).toNat)
          case atStart => exact ⟨m, ys, Nat.le_refl _, rfl, hown, HD0, hb⟩
          case round =>
            clear hown hb HD0
            obtain ⟨l, zs, hl, rfl, hz, HD, hb4⟩ := hrel
            match l, hl, HD with
            | 0, hl, HD =>
              have HT' := hid (ld_done HD.out)
              go_wp2_with fail
              go_roundw
              case rel => exact ⟨j + 1, zs, by omega, by go_num, hz, HT', hb4⟩
              case measure => simp [intOf]; omega
            | l + 1, hl, HD =>
              obtain ⟨g', hga, hg1, hg2, hg3, hg4⟩ := hz.opened (by omega)
              cases hga
              have hgk := hg3 (l + 1) (by omega)
              have hgk0 := hg3 l (by omega)
              have hgf := hg4 (l + 1)
              obtain ⟨y0, y1⟩ := ld_le HD.out hm8 hlt (x := l + 1) (by omega)
              obtain ⟨z0, z1⟩ := ld_le HD.out hm8 hlt (x := l) (by omega)
              obtain ⟨p0, p1⟩ := times_le (x := (j : Int) + 1) (by omega) (by omega) y0 y1
              obtain ⟨q0, q1⟩ := times_le (x := (m : Int) - ((j : Int) + 1) + 1) (by omega) (by omega) z0 z1
              have HD' := hid (ld_step HD.out (by rw [hz.len]; omega) hl (by omega))
              obtain ⟨s1, s2⟩ := hz.set (l + 1) (((j : Int) + 1) * nth zs (l + 1) + ((m : Int) - ((j : Int) + 1) + 1) * nth zs l)
              have hb5 := hb4.setCell (p := ⟨g1, l + 1, none⟩) hg1 (.int .i64 (((j : Int) + 1) * nth zs (l + 1) + ((m : Int) - ((j : Int) + 1) + 1) * nth zs l))
              have e1 : ((l + 1 : Nat) : Int) = (l : Int) + 1 := by omega
              rw [e1]
              clear hg3 hg4 s2 hz e1
              go_wp2_with fail
              have v1 : IntKind.i64.wrap (((j : Int) + 1) * nth zs (l + 1)) = ((j : Int) + 1) * nth zs (l + 1) := IntWalk.i64_in _ (by omega)
              have v2 : IntKind.i64.wrap ((m : Int) - ((j : Int) + 1)) = (m : Int) - ((j : Int) + 1) := IntWalk.i64_in _ (by omega)
              have v3 : IntKind.i64.wrap ((m : Int) - ((j : Int) + 1) + 1) = (m : Int) - ((j : Int) + 1) + 1 := IntWalk.i64_in _ (by omega)
              have v4 : IntKind.i64.wrap (l : Int) = (l : Int) := IntWalk.i64_in _ (by omega)
              have v5 : IntKind.i64.wrap (((m : Int) - ((j : Int) + 1) + 1) * nth zs l) = ((m : Int) - ((j : Int) + 1) + 1) * nth zs l := IntWalk.i64_in _ (by omega)
              have v6 : IntKind.i64.wrap (((j : Int) + 1) * nth zs (l + 1) + ((m : Int) - ((j : Int) + 1) + 1) * nth zs l) = ((j : Int) + 1) * nth zs (l + 1) + ((m : Int) - ((j : Int) + 1) + 1) * nth zs l := IntWalk.i64_in _ (by omega)
              have v7 : (l : Int) + 1 < (K : Int) := by omega
              have v8 : (0 : Int) ≤ (l : Int) + 1 := by omega
              have v9 : ((l : Int) + 1).toNat = l + 1 := by omega
              have v10 : (l : Int) < (K : Int) := by omega
              go_still_tail 20, (by kernel_rfl)
              clear v1 v2 v3 v4 v5 v6 v7 v8 v9 v10
              change wpList _ _ _ _ _ wr.drew
              go_wp2_with fail
              go_roundw
              case rel => exact ⟨l, _, by omega, by go_num, s1, HD', hb5.drew⟩
              case measure => simp [intOf]
        · have hje : m - 1 = j := by omega
          have HL : Hid (((List.range (m + 1)).map fun (l : Nat) => (lucky m (m - 1) l : Int)) = ys) := hid (lt_list (by rw [hje]; exact HT.out) (by rw [hown.len]; omega))
          have hlt' : ¬ (j : Int) + 1 < (m : Int) := by omega
          clear hje hlt
          go_wp2_with fail
          go_ret2
          exact postInts (by rw [HA.out, HL.out]) hown hb
    · have HA := hid (luckyOfN_no (n := n) (by rw [Bool.not_eq_true, inB_not]; omega))
      go_enter Try.func22, Try.ntmps22
      go_wp2_with fail
      go_ret2
      exact postInts_no HA.out (Below.refl _ _)
  · have HA := hid (luckyOfN_no (n := n) (by rw [Bool.not_eq_true, inB_not]; omega))
    go_enter Try.func22, Try.ntmps22
    go_wp2_with fail
    go_ret2
    exact postInts_no HA.out (Below.refl _ _)
end Go.Proofs.Ytabhhmnilidppaa

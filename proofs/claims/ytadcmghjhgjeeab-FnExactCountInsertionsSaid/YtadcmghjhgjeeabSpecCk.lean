/- CountInsertions: the model's function. -/
import Derived.Test.YtadcmghjhgjeeabSpecFj
import Derived.Test.YtadcmghjhgjeeabSpecO
namespace Go.Proofs.Ytadcmghjhgjeeab
open Go.RowKit

/-- What the orders that begin with the first k keys come to. -/
def cntTil (cs : List Int) (f : Nat) (part : List Int) (k : Nat) : Nat := (((rdyL cs part).take k).map fun key => cntGo cs f (part.set (findL cs key) key)).foldl (· + ·) 0
theorem til_zero (cs : List Int) (f : Nat) (part : List Int) : cntTil cs f part 0 = 0 := by simp [cntTil]
theorem til_succ {cs part : List Int} {f k : Nat} (h : k < (rdyL cs part).length) : cntTil cs f part (k + 1) = cntTil cs f part k + cntGo cs f (part.set (findL cs (nth (rdyL cs part) k)) (nth (rdyL cs part) k)) := by
  unfold cntTil
  rw [take_succ_nth h]
  simp
theorem cnt_nil {cs part : List Int} {f : Nat} (h : rdyL cs part = []) : cntGo cs f part = 1 := by
  cases f with
  | zero => rfl
  | succ f => simp only [cntGo, if_pos h]
theorem cnt_all {cs part : List Int} {f : Nat} (h : rdyL cs part ≠ []) : cntGo cs (f + 1) part = cntTil cs f part (rdyL cs part).length := by
  simp only [cntGo, if_neg h, cntTil, List.take_length]
theorem ready_len {cs : List Int} (h : cs.length ≤ 12) (part : List Int) : (rdyL cs part).length ≤ 12 := by
  have h1 : (rdyL cs part).length ≤ (keysL cs).length := List.length_filter_le _ _
  have h2 : (keysL cs).length = usedN cs := by
    unfold keysL
    rw [length_insSort, ← length_usedL]
    exact length_collE _ _ _ _
  have h3 : usedN cs ≤ cs.length := by unfold usedN; exact List.countP_le_length
  omega
theorem til_le {cs : List Int} {f B : Nat} (hb : ∀ part, cntGo cs f part ≤ B) (part : List Int) : ∀ k, k ≤ (rdyL cs part).length → cntTil cs f part k ≤ k * B
  | 0, _ => by simp [til_zero]
  | k + 1, hk => by
    have h1 := til_le hb part k (by omega)
    have h2 := hb (part.set (findL cs (nth (rdyL cs part) k)) (nth (rdyL cs part) k))
    rw [til_succ (by omega), Nat.succ_mul]
    omega
theorem cnt_le {cs : List Int} (h : cs.length ≤ 12) : ∀ f part, cntGo cs f part ≤ 12 ^ f
  | 0, _ => by simp [cntGo]
  | f + 1, part => by
    by_cases he : rdyL cs part = []
    · rw [cnt_nil he]
      exact Nat.one_le_pow _ _ (by omega)
    · rw [cnt_all he]
      have h1 := til_le (cnt_le h f) part _ (Nat.le_refl _)
      have h2 := ready_len h part
      rw [Nat.pow_succ, Nat.mul_comm]
      exact Nat.le_trans h1 (Nat.mul_le_mul_right _ h2)
theorem til_small {cs : List Int} (h : cs.length ≤ 12) {f : Nat} (hf : f ≤ 12) (part : List Int) {k : Nat} (hk : k ≤ (rdyL cs part).length) : cntTil cs f part k ≤ 106993205379072 := by
  have h1 := til_le (cnt_le h f) part k hk
  have h2 := ready_len h part
  have h3 : 12 ^ f ≤ 12 ^ 12 := Nat.pow_le_pow_right (by omega) hf
  have h4 : k * 12 ^ f ≤ 12 * 12 ^ 12 := Nat.mul_le_mul (by omega) h3
  exact Nat.le_trans h1 (Nat.le_trans h4 (by decide))
theorem cnt_small {cs : List Int} (h : cs.length ≤ 12) {f : Nat} (hf : f ≤ 12) (part : List Int) : cntGo cs f part ≤ 106993205379072 :=
  Nat.le_trans (cnt_le h f part) (Nat.le_trans (Nat.pow_le_pow_right (by omega) hf) (by decide))

theorem miss_zero {cs part : List Int} (ht : Tb cs) (hs : Sub cs part) (hm : missN cs part ≤ 0) : rdyL cs part = [] := by
  apply Classical.byContradiction
  intro hne
  obtain ⟨rest, he⟩ := head_of (List.length_pos_iff.2 hne)
  have hm' : nth (rdyL cs part) 0 ∈ rdyL cs part := nth_mem (List.length_pos_iff.2 hne)
  obtain ⟨r1, r2, r3, r4⟩ := rdy_cell ht hs hm'
  have := miss_put hs r1 r2 r4
  omega

set_option maxRecDepth 100000 in
set_option maxHeartbeats 4000000 in
theorem prCount_nil (cs : List Int) (ht : Tb cs) (f : Nat) (a b : Option Addr) (n cap m capb : Nat) (part : List Int) (w : World) (h : Has w a n cap cs) (h' : Has w b m capb part) (hs : Sub cs part) (he : rdyL cs part = []) :
    Calls Try.prog 57 #[.agg #[.slice a n cap], .slice b m capb] w fun e w' => e = .returned (.int .i64 (cntGo cs f part : Nat)) ∧ Below w.heap.size w w' := by
  obtain rfl := h.len
  obtain rfl : m = cs.length := h'.len.symm.trans hs.len
  have h12 := ht.hi
  obtain ⟨W, hW, C, hbW, hsW⟩ := boxed w (.slice a cs.length cap) 35
  have hH := h.below hbW (Nat.le_refl _)
  have hP := h'.below hbW (Nat.le_refl _)
  obtain ⟨y1, y2⟩ := id C
  have HE := hid he
  have HC := hid (cnt_nil (f := f) he)
  clear he
  go_enter Try.func57, Try.ntmps57
  go_wp2_with (go_at_call 85; refine (prReady_any _ _ _ _ _ _ _ _ _ hH hP ht hs).mono ?_; rintro e w' ⟨a1, q, cap1, rfl, own, hb⟩; obtain rfl : q = 0 := (by have := own.len; rw [HE.out] at this; exact this.symm))
  go_ret
  exact ⟨by rw [HC.out]; rfl, hbW.trans (hb.mono (by omega))⟩

set_option maxRecDepth 100000 in
set_option maxHeartbeats 4000000 in
theorem prCount_any (cs : List Int) (ht : Tb cs) : ∀ f, f ≤ 12 → ∀ (a b : Option Addr) (n cap m capb : Nat) (part : List Int) (w : World), Has w a n cap cs → Has w b m capb part → Sub cs part → missN cs part ≤ f →
    Calls Try.prog 57 #[.agg #[.slice a n cap], .slice b m capb] w fun e w' => e = .returned (.int .i64 (cntGo cs f part : Nat)) ∧ Below w.heap.size w w' := by
  intro f
  induction f with
  | zero =>
    intro _ a b n cap m capb part w h h' hs hmi
    exact prCount_nil cs ht 0 a b n cap m capb part w h h' hs (miss_zero ht hs hmi)
  | succ f ih =>
    intro hf a b n cap m capb part w h h' hs hmi
    by_cases he : rdyL cs part = []
    · exact prCount_nil cs ht (f + 1) a b n cap m capb part w h h' hs he
    obtain rfl := h.len
    obtain rfl : m = cs.length := h'.len.symm.trans hs.len
    have h12 := ht.hi
    have hlo := ht.lo
    obtain ⟨W, hW, C, hbW, hsW⟩ := boxed w (.slice a cs.length cap) 35
    have hH := h.below hbW (Nat.le_refl _)
    have hP := h'.below hbW (Nat.le_refl _)
    obtain ⟨y1, y2⟩ := id C
    have IH := hid (ih (by omega))
    have HC := hid (cnt_all (f := f) he)
    obtain ⟨V, hV⟩ : ∃ V : Nat, (rdyL cs part).length = V := ⟨_, rfl⟩
    have hpos : 0 < V := by rw [← hV]; exact List.length_pos_iff.2 he
    have hV12 : V ≤ 12 := by rw [← hV]; exact ready_len h12 part
    have HV := hid hV
    have HS := hid hs
    have HTB := hid ht
    have HSM := hid (fun k (hk : k ≤ (rdyL cs part).length) => til_small (f := f) h12 (by omega) part hk)
    clear he hV ih
    go_enter Try.func57, Try.ntmps57
    go_wp2_with (go_at_call 85; refine (prReady_any _ _ _ _ _ _ _ _ _ hH hP ht hs).mono ?_; rintro e w' ⟨a1, q, cap1, rfl, own, hb⟩; obtain rfl : q = V := (own.len.symm.trans HV.out); have hqb : ((q : Int) == 0) = false := (by simp; omega))
    obtain ⟨wk, rfl⟩ : ∃ wk : World, wk = w' := ⟨_, rfl⟩
    have s1 := hb.size
    have Ck := C.below hb (by omega)
    have hHk := hH.below hb (Nat.le_refl _)
    have hPk := hP.below hb (Nat.le_refl _)
    have HK := hid own.has
    have hbk := hbW.trans (hb.mono (by omega))
    have hwk : w.heap.size < wk.heap.size := by omega
    clear hW y1 y2 C hH hP own hb hbW
    go_loopw [6, 18] (fun x i wr => ∃ k : Nat, i = .int .i64 k ∧ x = .int .i64 (cntTil cs f part k : Nat) ∧ k ≤ q ∧ Below wk.heap.size wk wr) (fun _ i _ => q - (intOf i).toNat)
    case atStart => exact ⟨0, rfl, by rw [til_zero]; rfl, by omega, Below.refl _ _⟩
    case round =>
      obtain ⟨k, rfl, rfl, hk, hb⟩ := hrel
      have hbs := hb.size
      have hK := HK.out.below hb (Nat.le_refl _)
      have hH := hHk.below hb (Nat.le_refl _)
      have hP := hPk.below hb (Nat.le_refl _)
      have C := Ck.below hb hwk
      by_cases hlt : k < q
      · obtain ⟨b0, off, rfl, hbb, hcc⟩ := hK.2.2.2.2 (by omega)
        have hck := hcc k hlt
        have hkl : k < (rdyL cs part).length := by rw [HV.out]; exact hlt
        have HT := hid (til_succ (f := f) hkl)
        have x1 := HSM.out k (by omega)
        have hm : nth (rdyL cs part) k ∈ rdyL cs part := nth_mem hkl
        obtain ⟨key, hkey⟩ : ∃ key, nth (rdyL cs part) k = key := ⟨_, rfl⟩
        rw [hkey] at hm HT hck
        obtain ⟨r1, r2, r3, r4⟩ := rdy_cell HTB.out HS.out hm
        obtain ⟨f1, f2, f3⟩ := findL_spec r1
        have HPI := hid (placeI_yes r1)
        have hsub := HS.out.put r1
        have hmis := miss_put HS.out r1 r2 r4
        have x2 := cnt_small h12 (f := f) (by omega) (part.set (findL cs key) key)
        obtain ⟨c, hc⟩ : ∃ c, findL cs key = c := ⟨_, rfl⟩
        rw [hc] at HPI f1 HT hsub hmis x2
        have hmf : missN cs (part.set c key) ≤ f := by omega
        have HMF := hid hmf
        have HSUB := hid hsub
        have hc1 : (c : Int) < (cs.length : Int) := by omega
        have hc0 : (0 : Int) ≤ (c : Int) := by omega
        obtain ⟨x, hx⟩ : ∃ x, cntTil cs f part k = x := ⟨_, rfl⟩
        obtain ⟨y, hy⟩ : ∃ y, cntGo cs f (part.set c key) = y := ⟨_, rfl⟩
        have HY := hid hy
        rw [hx] at x1 HT ⊢
        rw [hy] at x2 HT
        have y1 : (x : Int) ≤ 106993205379072 := by omega
        have y2 : (y : Int) ≤ 106993205379072 := by omega
        have y3 : (0 : Int) ≤ (x : Int) := by omega
        have y4 : (0 : Int) ≤ (y : Int) := by omega
        obtain ⟨z1, z2⟩ := id C
        clear hcc hkey hkl hm r1 r2 r3 r4 f2 f3 hc hsub hmis hmf hx hy x1 x2
        go_upto_region 10 with (first | (go_at_call 77; refine (l1Own_any _ _ _ _ _ hP).mono ?_; rintro e w' ⟨a3, cap3, rfl, own3, hb3⟩; obtain ⟨g3, rfl, g31, g32, -, -⟩ := own3.opened (by omega); have C3 := C.below hb3 (by omega); obtain ⟨t1, t2⟩ := id C3; have hH3 := hH.below hb3 (Nat.le_refl _)) | (go_at_call 86; refine (prPlace_any _ _ _ _ key _ hH3).mono ?_; rintro e w' ⟨rfl, hb4⟩; rw [HPI.out]; have own4 := own3.below hb4 (Nat.le_refl _); obtain ⟨p1, p2⟩ := own_cell0 own4 f1))
        have oV := own4.set c key
        have opV := oV.1
        have h34 := hb3.trans (hb4.mono hb3.size)
        have h34' := h34.mono hbs
        have hbV := (hb.trans h34').setCell (p := ⟨g3, c, none⟩) (show wk.heap.size ≤ g3 by omega) (.int .i64 key)
        have CV := Ck.below hbV hwk
        have hHV := hHk.below hbV (Nat.le_refl _)
        obtain ⟨v1, v2⟩ := id CV
        have hsV := hbV.size
        generalize World.setCell _ ⟨g3, c, none⟩ (.int .i64 key) = X at *
        clear oV own4 own3 hb3 hb4 h34 h34' C C3 hH hH3 hP hK hb
        go_wp2_with (go_at_call 57; refine (IH.out _ _ _ _ _ _ _ _ hHV opV.has HSUB.out HMF.out).mono ?_; rw [HY.out]; rintro e w9 ⟨rfl, hb9⟩)
        go_roundw
        case rel => exact ⟨k + 1, by go_num, by rw [HT.out]; go_num, by omega, hbV.trans (hb9.mono hsV)⟩
        case measure => simp [intOf]; omega
      · obtain rfl : k = q := by omega
        go_wp2_with fail
        go_ret
        exact ⟨by rw [HC.out, HV.out]; rfl, hbk.trans (hb.mono (by omega))⟩
end Go.Proofs.Ytadcmghjhgjeeab

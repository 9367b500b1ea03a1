/- Counts by total distances: the model's function, by its contract. -/
import Derived.Test.YtkkhlkaieohklabGreatSpecAll
import Derived.Test.YtkkhlkaieohklabGreatSpecC
import Derived.Test.YtkkhlkaieohklabGreatMathD
namespace Go.Proofs.YtkkhlkaieohklabGreat
open Go.RowKit

theorem grown_on {w w' w'' : World} {r : Option Nat} (h : w.grownBy w' r) (hb : Below w'.heap.size w' w'') : w.grownBy w'' r :=
  ⟨hb.os.trans h.os, hb.tape.trans h.tape, hb.output.trans h.output, Nat.le_trans h.size hb.size, fun j hj hne => (hb.block j (Nat.lt_of_lt_of_le hj h.size)).trans (h.block j hj hne)⟩
theorem grown_set {w w' : World} {g i : Nat} (h : w.grownBy w' (some g)) (v : Value) : w.grownBy (w'.setCell ⟨g, i, none⟩ v) (some g) :=
  ⟨h.os, h.tape, h.output, by simpa using h.size, fun j hj hne => by
    rw [heap_setCell_other w' ⟨g, i, none⟩ j v (by intro e; exact hne (by simp [e]))]
    exact h.block j hj hne⟩
/-- The counts of the first k. -/
def Hist (ts : List Int) (m k : Nat) (zs : List Int) : Prop := ∀ d : Nat, d < m → nth zs d = occ (ts.take k) d
theorem hist_first (ts : List Int) (m : Nat) : Hist ts m 0 (List.replicate m 0) := fun d _ => by
  rw [nth_replicate0]
  simp [occ]
theorem hist_step {ts zs : List Int} {m k d : Nat} (h : Hist ts m k zs) (hk : k < ts.length) (hd : nth ts k = (d : Int)) (hm : d < m) (hl : zs.length = m) : Hist ts m (k + 1) (zs.set d (nth zs d + 1)) := fun e he => by
  rw [nth_set (by omega), occ_succ hk, hd]
  by_cases x : d = e
  · subst x
    rw [if_pos rfl, if_pos rfl, h d hm]
  · rw [if_neg x, if_neg (by omega), h e he, Int.add_zero]
theorem hist_le {ts zs : List Int} {m k d : Nat} (h : Hist ts m k zs) (hd : d < m) (hk : k ≤ ts.length) : 0 ≤ nth zs d ∧ nth zs d ≤ ts.length := by
  rw [h d hd]
  unfold occ
  have := List.count_le_length (a := (d : Int)) (l := ts.take k)
  simp at this
  omega
theorem hist_done {n m : Nat} {zs : List Int} (h : Hist (tots n) m (tots n).length zs) (hm : m = mostD n + 1) (hl : zs.length = m) : distCounts n = zs := by
  subst hm
  refine ext_nth (by simp [distCounts, hl]) fun i hi => ?_
  simp [distCounts] at hi
  rw [h i (by omega), List.take_length]
  simp [nth, distCounts, show i < mostD n + 1 by omega]
theorem cnt_le5' {n : Nat} (h : n ≤ 5) : cnt n ≤ 1296 := by
  have : ∀ n, n < 6 → cnt n ≤ 1296 := by decide +kernel
  exact this n (by omega)
theorem tots_length {n : Nat} (h8 : n ≤ 8) : (tots n).length = cnt n := by
  unfold tots
  rw [List.length_map]
  exact (all_chain h8).2.2.1
theorem most_facts : ∀ n : Nat, n < 6 → (n : Int) * ((n : Int) - 1) ≤ 20 ∧ 0 ≤ (n : Int) * ((n : Int) - 1) ∧ (n : Int) * ((n : Int) - 1) / 2 + 1 = ((mostD n + 1 : Nat) : Int) := by decide
/-- A row of all. -/
theorem row_all {n q : Nat} {rs : List Rw} (h8 : n ≤ 8) (hn : numsOf rs = listL n n []) (hq : rs.length = q) {k : Nat} (hk : k < q) : isPark (nthR rs k).xs = true ∧ (nthR rs k).xs.length = n ∧ nth (tots n) k = tot (nthR rs k).xs ∧ k < (tots n).length := by
  have h1 := map_nthR Rw.xs (rs := rs) (i := k) (by omega)
  have h2 : (listL n n [])[k]? = some (nthR rs k).xs := by rw [← hn]; exact h1
  have hm := List.mem_of_getElem? h2
  obtain ⟨p1, p2⟩ := list_parks h8 hm
  refine ⟨p1, p2, ?_, ?_⟩
  · simp [nth, tots, h2]
  · have := (List.getElem?_eq_some_iff.1 h2).1
    simpa [tots] using this
theorem park_dists {xs : List Int} (h : isPark xs = true) : Small (dists xs.length xs) := by
  obtain ⟨h1, h2, h3⟩ := isPark_iff.1 h
  intro i hi
  rw [length_dists] at hi
  rw [nth_dists hi]
  have a := car_at hi h2 h3
  have b := h2 _ (nth_mem (xs := xs) (i := i) hi)
  omega

set_option maxRecDepth 100000 in
set_option maxHeartbeats 4000000 in
theorem specDist_any (n : Int) (w : World) : Calls Tryz.prog 15 #[.int .i64 n] w (PostInts w (distOfN n)) := by
  by_cases hg : inB n 0 5 = true
  · obtain ⟨m, rfl⟩ : ∃ m : Nat, n = (m : Int) := ⟨n.toNat, by have := inB_iff.1 hg; omega⟩
    have hm : m ≤ 5 := by have := inB_iff.1 hg; omega
    have HA := hid (distOfN_yes hg)
    have HG := hid hg
    obtain ⟨f1, f2, f3⟩ := most_facts m (by omega)
    have hms := mostD_small hm
    obtain ⟨K, hK⟩ : ∃ K, mostD m + 1 = K := ⟨_, rfl⟩
    rw [hK] at f3
    have HK := hid hK
    have F3 := hid f3
    have hK11 : K ≤ 11 := by omega
    have HTL := hid (tots_length (n := m) (by omega))
    have hc5 := cnt_le5' hm
    clear hg f3 hK hms
    go_enter Tryz.func15, Tryz.ntmps15
    go_wp2_with (first | (go_at_call 24; refine (l1In_any _ _ _ _).mono ?_; rintro e w' ⟨rfl, rfl⟩; rw [HG.out]) | (at_make; refine wpList_make_ints _ rfl _ _ rfl K (congrArg (Value.int .i64) F3.out) (congrArg (Value.int .i64) F3.out) (by omega) ?_; intro a1 cap1 w1 hown1 hb1))
    refine (cnAll_any m hm m 0 none 0 [] _ (by omega) (Has.nilAt none (by unfold maxLen; omega)) (hid (fun i hi => by omega))).mono ?_
    rintro e w2 ⟨a2, q, cap2, rs, rfl, hown2, hn2, hb2⟩
    have HROW := hid (fun k (hk : k < q) => row_all (n := m) (by omega) hn2 hown2.len hk)
    have hq : q = (tots m).length := by
      have h1 := numsOf_len hown2
      rw [hn2] at h1
      simp [tots, h1]
    have HQ := hid hq
    have hqc : q ≤ 1296 := by rw [hq, HTL.out]; exact hc5
    have ho1 := hown1.below hb2 (Nat.le_refl _)
    obtain ⟨g1, rfl, hg1, hg2, -, -⟩ := hown1.opened (by have := HK.out; omega)
    have hbw := hb1.trans (hb2.mono hb1.size)
    have hlt := hown2.lt
    have hge : ∀ i, i < q → ∀ p, (nthR rs i).a = some p → p.block ≠ g1 := fun i hi p hp => by
      have := (hown2.2.2.2.1 i hi).ge p hp
      omega
    have HGE := hid hge
    have HR := hid hown2.has
    have hga : ∀ p, a2 = some p → p.block ≠ g1 := fun p hp => by
      subst hp
      have := (hown2.1.lt p.block rfl).1
      omega
    have HGA := hid hga
    have HH0 := hid (hist_first (tots m) K)
    have hlt2 : g1 < w2.heap.size := Nat.lt_of_lt_of_le hg2 hb2.size
    clear hn2 hq hown1 hown2 hb1 hb2 hlt hge hga
    go_wp2_with fail
    go_loopw [20] (fun i wr => ∃ (k : Nat) (zs : List Int), k ≤ q ∧ i = .int .i64 (k : Int) ∧ Own wr w.heap.size (some ⟨g1, 0, none⟩) K cap1 zs ∧ Hid (Hist (tots m) K k zs) ∧ w2.grownBy wr (some g1)) (fun i _ => q - (intOf i).toNat)
    case atStart => exact ⟨0, _, Nat.zero_le _, rfl, ho1, HH0, World.grownBy.refl _ _⟩
    case round =>
      clear ho1 HH0
      obtain ⟨k, zs, hk, rfl, hz, HH, hgr⟩ := hrel
      by_cases hkq : k < q
      · obtain ⟨p1, p2, p3, p4⟩ := HROW.out k hkq
        obtain ⟨r0, r1, r2, r3, r4, r5⟩ := HR.out
        obtain ⟨b, off, rfl, hbb, hc⟩ := r4 (by omega)
        have hbg := HGA.out _ rfl
        have hck : wr.cell? ⟨b, off + k, none⟩ = some (nthR rs k).v := hgr.cell (hc k hkq) (by simpa using hbg)
        have hrow := (r5 k hkq).kept hgr (HGE.out k hkq)
        have hdn := dists_tot p1
        have hsm := park_dists p1
        have htb := tot_bounds p1
        have hge0 : ∀ i, i < m → 0 ≤ nth (nthR rs k).xs i ∧ nth (nthR rs k).xs i ≤ (m : Int) - 1 := fun i hi => by
          have := (isPark_bounds p1).2 _ (nth_mem (xs := (nthR rs k).xs) (i := i) (by omega))
          omega
        rw [p2] at hdn hsm htb hrow
        unfold Rw.v at hck
        rw [p2] at hck
        have HD := hid hdn
        have HSM := hid hsm
        have HGE0 := hid hge0
        obtain ⟨d, hd⟩ : ∃ d : Nat, tot (nthR rs k).xs = (d : Int) := ⟨(tot (nthR rs k).xs).toNat, by omega⟩
        rw [hd] at htb
        have hdK : d < K := by have := HK.out; omega
        have HH' := hid (hist_step HH.out p4 (by rw [p3, hd]) hdK (by rw [hz.len]))
        obtain ⟨z0, z1⟩ := hist_le HH.out hdK (by rw [← HQ.out]; exact hk)
        rw [← HQ.out] at z1
        have HDD := hid hd
        generalize (nthR rs k).xs = xs at *
        generalize (nthR rs k).a = ax at *
        generalize (nthR rs k).c = cx at *
        clear hdn hsm hge0 hd p1 p2 p3 p4 htb hc r0 r1 r2 r3 r4 r5 hbg
        go_wp2_with fail
        refine (paDistances_any _ _ _ _ _ _ hrow (by omega) (by omega) HGE0.out).mono ?_
        rintro e w5 ⟨a5, cap5, rfl, hown5, hb5⟩
        go_wp2_with fail
        refine (paSum_any _ _ _ _ _ hown5.has HSM.out).mono ?_
        rintro e _ ⟨rfl, rfl⟩
        rw [HD.out, HDD.out]
        have hz5 := hz.below hb5 (Nat.le_refl _)
        have hgr5 := grown_on hgr hb5
        obtain ⟨g', hga, hl1, hl2, hl3, hl4⟩ := hz5.opened (by omega)
        cases hga
        have hgk := hl3 d hdK
        have hgf := hl4 d
        have hdK' : (d : Int) < (K : Int) := by omega
        clear hl3 hl4 hz hgr hck hown5 hb5
        go_wp2_with fail
        go_roundw
        case rel =>
          obtain ⟨s1, s2⟩ := hz5.set d (nth zs d + 1)
          exact ⟨k + 1, _, by omega, by go_num, s1, HH', grown_set hgr5 _⟩
        case measure => simp [intOf]; omega
      · obtain rfl : q = k := by omega
        have HE : Hid (distCounts m = zs) := hid (hist_done (by rw [← HQ.out]; exact HH.out) HK.out.symm hz.len)
        go_wp2_with fail
        go_ret2
        exact postInts (by rw [HA.out, HE.out]) hz (hbw.trans (below_grown hgr hbw.size (by intro k hk; cases hk; exact hg1)))
  · have HA := hid (distOfN_no hg)
    have HG := hid hg
    clear hg
    go_enter Tryz.func15, Tryz.ntmps15
    go_wp2_with (go_at_call 24; refine (l1In_any _ _ _ _).mono ?_; rintro e w' ⟨rfl, rfl⟩; rw [Bool.eq_false_iff.2 HG.out])
    go_ret2
    exact postInts_no HA.out (Below.refl _ _)
end Go.Proofs.YtkkhlkaieohklabGreat

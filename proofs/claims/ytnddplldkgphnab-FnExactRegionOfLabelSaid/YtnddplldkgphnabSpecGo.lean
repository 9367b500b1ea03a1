/- How the model goes on a Region, by contract. -/
import Derived.Test.YtnddplldkgphnabSpecRi
import Derived.Test.YtnddplldkgphnabSpecO
import Derived.Test.YtnddplldkgphnabMathGo
import Derived.Test.YtnddplldkgphnabImplBr
import Derived.Deep.DeepCutAuto
import Derived.Deep.RegionWith
import Derived.Deep.RegionLaw
import Derived.Deep.AppendLies
import Derived.Test.YtnddplldkgphnabExg
namespace Go.Proofs.Ytnddplldkgphnab
open Go.RowKit

theorem cnt_next' {os : List Int} {i : Int} {f k : Nat} (h : k < os.length) : cntF i (os.take (k + 1)) f = cntF i (os.take k) f + (if i < nth os k ∨ k < f then 1 else 0) := by
  rw [take_succ_nth h, cntF_snoc, List.length_take, Nat.min_eq_left (by omega)]
set_option maxHeartbeats 400000 in
theorem reCount_any (a : Option Addr) (n cap : Nat) (os : List Int) (i : Int) (f : Nat) (w : World) (h : Has w a n cap os) (h8 : n ≤ 8) :
    Calls Try.prog 57 #[.slice a n cap, .int .i64 (f : Int), .int .i64 i] w fun e w' => e = .returned (.int .i64 (cntF i os f : Int)) ∧ w = w' := by
  have HL := hid h.len
  have HC := hid (fun k => cntF_le i (os.take k) f)
  go_enter Try.func57, Try.ntmps57
  go_wp2_with fail
  go_loop [7, 12] (fun c x => ∃ (k v : Nat), k ≤ n ∧ x = .int .i64 (k : Int) ∧ c = .int .i64 (v : Int) ∧ Hid (v = cntF i (os.take k) f)) (fun _ x => n - (intOf x).toNat)
  case atStart => exact ⟨0, 0, by omega, rfl, rfl, hid rfl⟩
  case round =>
    obtain ⟨k, v, hk, rfl, rfl, HV⟩ := hrel
    by_cases hlt : k < n
    · obtain ⟨b0, off, rfl, hbb, hc⟩ := h.2.2.2.2 (by omega)
      have hck := hc k hlt
      have HS := hid (cnt_next' (os := os) (i := i) (f := f) (k := k) (by rw [HL.out]; exact hlt))
      have hv8 : v ≤ 8 := by have := HC.out k; rw [← HV.out, List.length_take] at this; omega
      clear hc
      by_cases h1 : i < nth os k
      · have HN : Hid (v + 1 = cntF i (os.take (k + 1)) f) := hid (by rw [HS.out, if_pos (.inl h1), HV.out])
        go_wp2_with fail
        go_round
        case rel => exact ⟨k + 1, v + 1, by omega, by go_num, by go_num, HN⟩
        case measure => simp [intOf]; omega
      · by_cases h2 : k < f
        · have HN : Hid (v + 1 = cntF i (os.take (k + 1)) f) := hid (by rw [HS.out, if_pos (.inr h2), HV.out])
          go_wp2_with fail
          go_round
          case rel => exact ⟨k + 1, v + 1, by omega, by go_num, by go_num, HN⟩
          case measure => simp [intOf]; omega
        · have HN : Hid (v = cntF i (os.take (k + 1)) f) := hid (by rw [HS.out, if_neg (by omega), HV.out]; rfl)
          go_wp2_with fail
          go_round
          case rel => exact ⟨k + 1, v, by omega, by go_num, rfl, HN⟩
          case measure => simp [intOf]; omega
    · obtain rfl : k = n := by omega
      have HR : Hid ((v : Int) = (cntF i os f : Int)) := hid (by rw [HV.out, List.take_of_length_le (by rw [HL.out]; omega)])
      go_wp2_with fail
      go_ret
      exact ⟨ret_int HR.out, rfl⟩

theorem Own.belowLt' {w w' : World} {B K : Nat} {a : Option Addr} {n cap : Nat} {xs : List Int} (h : Own w B a n cap xs) (hb : Below K w w') (hl : BlkLt a K) : Own w' B a n cap xs := by
  obtain ⟨⟨h1, h2⟩, h3⟩ := h
  refine ⟨⟨h1, ?_⟩, h3⟩
  rcases h2 with h2 | ⟨g, cap', cur, hv, hg, hh, r⟩
  · exact .inl h2
  · simp at hv
    have := hl _ hv.1
    exact .inr ⟨g, cap', cur, by simp [hv], hg, by rw [hb.block g (by simpa using this)]; exact hh, r⟩
theorem Own.setAt {w : World} {B K g i : Nat} {a : Option Addr} {n cap : Nat} {xs : List Int} (h : Own w B a n cap xs) (hg : K ≤ g) (v : Value) (hl : BlkLt a K) : Own (w.setCell ⟨g, i, none⟩ v) B a n cap xs :=
  h.belowLt' ((Below.refl K w).setCell (p := ⟨g, i, none⟩) hg v) hl
/-- A Region and a bool, in blocks from B on. -/
def GoPost (w : World) (B : Nat) (R : (List Int × List Int) × Bool) (e : Ending) (w' : World) : Prop :=
  ∃ a n c b m d, e = .returned (.tuple #[.agg #[.slice a n c, .slice b m d], .bool R.2]) ∧ Own w' B a n c R.1.1 ∧ Own w' B b m d R.1.2 ∧ Apart2 a b ∧ Below w.heap.size w w'
/-- The contract at a length that is still to come. -/
def GoesOn (lab : List Int) (n d : Nat) : Prop := ∀ (p : Nat), p + d = n → ∀ (os fs : List Int) (l : Nat) (R : (List Int × List Int) × Bool), GoSt lab os fs p l R →
  ∀ (a b ab : Option Addr) (ca cb cl : Nat) (w : World) (B : Nat), Own w B a p ca os → Own w B b p cb fs → Apart2 a b → Has w ab n cl lab → B ≤ w.heap.size →
    Calls Try.prog 34 #[.agg #[.slice a p ca, .slice b p cb], .slice ab n cl] w (GoPost w B R)
set_option maxRecDepth 100000 in
set_option maxHeartbeats 2000000 in
theorem goesOn_zero {lab : List Int} {n : Nat} (hn : lab.length = n) : GoesOn lab n 0 := by
  intro p hp os fs l R G a b ab ca cb cl w B oa ob ap h hB
  obtain rfl : p = n := by omega
  subst hn
  have HR := hid (go_end G)
  have hb0 : Below w.heap.size w (w.alloc (.cells #[.slice a lab.length ca, .slice b lab.length cb] 24)) := (Below.refl _ _).alloc (Nat.le_refl _) _
  have BX := boxAt_new w (.slice a lab.length ca) (.slice b lab.length cb) 24
  have hs : (w.alloc (.cells #[.slice a lab.length ca, .slice b lab.length cb] 24)).heap.size = w.heap.size + 1 := by simp
  have BX2 := BX.alloc (.cells #[.slice none 0 0, .slice none 0 0] 24)
  have BY := boxAt_new (w.alloc (.cells #[.slice a lab.length ca, .slice b lab.length cb] 24)) (.slice none 0 0) (.slice none 0 0) 24
  have BZ := boxAt_new (w.alloc (.cells #[.slice a lab.length ca, .slice b lab.length cb] 24)) (.slice a lab.length ca) (.slice b lab.length cb) 24
  have hb1 := hb0.alloc (by simp) (.cells #[.slice a lab.length ca, .slice b lab.length cb] 24)
  rw [hs] at BY BZ
  obtain ⟨x1, x2, x3, x4⟩ := id BX2
  obtain ⟨y1, y2, y3, y4⟩ := id BY
  obtain ⟨z1, z2, z3, z4⟩ := id BZ
  go_enter Try.func34, Try.ntmps34
  go_wp2_with fail
  have lta := oa.lt
  have ltb := ob.lt
  have oa2 := oa.belowLt' hb1 lta
  have ob2 := ob.belowLt' hb1 ltb
  refine bodyPost_ret (v := .tuple #[.agg #[.slice a lab.length ca, .slice b lab.length cb], .bool true]) (by simp [results, Try.results34, go_sem, *]) rfl ?_
  unfold GoPost
  rw [HR.out]
  exact ⟨_, _, _, _, _, _, rfl, oa2, ob2, ap, hb1⟩

set_option maxRecDepth 100000 in
set_option maxHeartbeats 100000000 in
theorem goesOn_step {lab : List Int} {n d : Nat} (hn : lab.length = n) (h8 : n ≤ 8) (hpk : isPark lab = true) (IH : GoesOn lab n d) : GoesOn lab n (d + 1) := by
  intro p hp os fs l R G a b ab ca cb cl w B oa ob ap h hB
  have hpn : p < n := by omega
  obtain ⟨st, HS1, HS2, HS3⟩ := go_step hpk (by rw [hn]; exact hpn) G
  rw [hn] at HS1 HS3
  have S1 := hid HS1
  have S2 := hid HS2
  have S3 := hid HS3
  have hlo := hid G.lo
  have hle := G.le
  have hlast := hid G.last
  have HIH := hid IH
  have HLN := hid hn
  clear HS1 HS2 HS3 hpk IH hn
  have hb0 : Below w.heap.size w (w.alloc (.cells #[.slice a p ca, .slice b p cb] 24)) := (Below.refl _ _).alloc (Nat.le_refl _) _
  have BX := boxAt_new w (.slice a p ca) (.slice b p cb) 24
  have hs : (w.alloc (.cells #[.slice a p ca, .slice b p cb] 24)).heap.size = w.heap.size + 1 := by simp
  have BX2 := BX.alloc (.cells #[.slice none 0 0, .slice none 0 0] 24)
  have BY := boxAt_new (w.alloc (.cells #[.slice a p ca, .slice b p cb] 24)) (.slice none 0 0) (.slice none 0 0) 24
  have hb1 := hb0.alloc (by simp) (.cells #[.slice none 0 0, .slice none 0 0] 24)
  have hs2 : ((w.alloc (.cells #[.slice a p ca, .slice b p cb] 24)).alloc (.cells #[.slice none 0 0, .slice none 0 0] 24)).heap.size = w.heap.size + 2 := by simp
  rw [hs] at BY
  have lta := oa.lt
  have ltb := ob.lt
  have oa1 := oa.belowLt' hb1 lta
  have ob1 := ob.belowLt' hb1 ltb
  have h1 := h.below hb1 (Nat.le_refl _)
  clear oa ob
  have x0 := BX2.c0
  have x1 := BX2.c1
  have hne : ((p : Int) == (n : Int)) = false := by simp; omega
  have hfar : 0 < p → ∃ b2 off2, b = some ⟨b2, off2, none⟩ ∧ ((w.alloc (.cells #[.slice a p ca, .slice b p cb] 24)).alloc (.cells #[.slice none 0 0, .slice none 0 0] 24)).cell? ⟨b2, off2 + (p - 1), none⟩ = some (.int .i64 (l : Int)) := fun h0 => by
    obtain ⟨b2, off2, e, _, hc⟩ := ob1.has.2.2.2.2 h0
    refine ⟨b2, off2, e, ?_⟩
    have := hlast.out
    unfold lastF at this
    rw [if_neg (by omega)] at this
    rw [this]
    exact hc (p - 1) (by omega)
  have KEY : ∀ (wr : World), True := fun _ => trivial
  by_cases h0 : p = 0
  · subst h0
    obtain rfl : l = 0 := by omega
    have hne0 : ((0 : Int) == (n : Int)) = false := by simp; omega
    clear hfar
    go_enter Try.func34, Try.ntmps34
    go_wp2_with fail
    obtain ⟨V, hV⟩ : ∃ V, (w.alloc (.cells #[.slice a 0 ca, .slice b 0 cb] 24)).alloc (.cells #[.slice none 0 0, .slice none 0 0] 24) = V := ⟨_, rfl⟩
    rw [hV] at BX2 BY hb1 hs2 oa1 ob1 h1
    rw [hV]
    clear hV x0 x1 hb0 BX hs
    go_loopw [32] (fun ii wr => ∃ k : Nat, k ≤ n ∧ ii = .int .i64 (k : Int) ∧ Hid (∀ i f, st = some (i, f) → k ≤ i) ∧ Below V.heap.size V wr) (fun ii _ => n - (intOf ii).toNat)
    case atStart => exact ⟨0, by omega, rfl, hid (fun _ _ _ => Nat.zero_le _), Below.refl _ _⟩
    case round =>
      obtain ⟨k, hk, rfl, HK, hb⟩ := hrel
      have B1 := BX2.below hb (by omega)
      have B2 := BY.below hb (by omega)
      have oa := oa1.below hb (Nat.le_refl _)
      have ob := ob1.below hb (Nat.le_refl _)
      have hl := h1.below hb (Nat.le_refl _)
      have hbw := hb1.trans (hb.mono (by omega))
      obtain ⟨z1, z2, z3, z4⟩ := id B1
      obtain ⟨q1, q2, q3, q4⟩ := id B2
      by_cases hkn : k < n
      · obtain ⟨b0, off0, rfl, hbb, hc⟩ := hl.2.2.2.2 (by omega)
        have hck := hc k hkn
        clear hc
        by_cases hh : hasB os k = true
        · have HH := hid hh
          have HN : Hid (∀ i f, st = some (i, f) → k + 1 ≤ i) := hid (fun i f e => by
            have h1 := HK.out i f e
            have h2 := (S3.out i f e).2.new
            by_cases e2 : i = k
            · subst e2; exact absurd (hasB_iff.1 hh) h2
            · omega)
          clear hh
          go_wp2_with (go_at_call 56; refine (l1Has_any _ _ _ _ _ _ oa.has).mono ?_; rintro e w' ⟨rfl, rfl⟩; rw [HH.out])
          go_roundw
          case rel => exact ⟨k + 1, by omega, by go_num, HN, hb⟩
          case measure => simp [intOf] <;> omega
        · have HH := hid (Bool.eq_false_iff.2 hh)
          have hnew : (k : Int) ∉ os := fun e => hh (hasB_iff.2 e)
          have HNW := hid hnew
          clear hh hnew
          go_wp2_with (go_at_call 56; refine (l1Has_any _ _ _ _ _ _ oa.has).mono ?_; rintro e w' ⟨rfl, rfl⟩; rw [HH.out])
          obtain ⟨wo, rfl⟩ : ∃ wo : World, wo = wr := ⟨_, rfl⟩
          go_loopw [10] (fun ff wr => ∃ f : Nat, 0 ≤ f ∧ f ≤ 1 ∧ ff = .int .i64 (f : Int) ∧ Hid (∀ g, st = some (k, g) → f ≤ g) ∧ Below V.heap.size V wr) (fun ff _ => 1 - (intOf ff).toNat)
          case atStart => exact ⟨0, by omega, by omega, rfl, hid (fun g e => (S3.out k g e).2.ge), hb⟩
          case round =>
            clear B1 B2 oa ob hl hbw z1 z2 z3 z4 q1 q2 q3 q4 hb hck
            obtain ⟨f, hf1, hf2, rfl, HF, hb⟩ := hrel
            have B1 := BX2.below hb (by omega)
            have B2 := BY.below hb (by omega)
            have oa := oa1.below hb (Nat.le_refl _)
            have ob := ob1.below hb (Nat.le_refl _)
            have hl := h1.below hb (Nat.le_refl _)
            have hbw := hb1.trans (hb.mono (by omega))
            obtain ⟨z1, z2, z3, z4⟩ := id B1
            obtain ⟨q1, q2, q3, q4⟩ := id B2
            have HNX : Hid ((¬ Fits lab os 0 k f) → ∀ g, st = some (k, g) → f + 1 ≤ g) := hid (fun hno g e => by
              have h1 := HF.out g e
              by_cases e2 : g = f
              · subst e2; exact absurd (S3.out k g e).2 hno
              · omega)
            by_cases hfp : f ≤ 0
            · skip
              by_cases hlf : 0 < f
              · omega
              · obtain rfl : f = 0 := by omega
                skip
                by_cases hc : ((cntF k os 0 : Nat) : Int) = nth lab k
                · skip
                  have HF2 := hid (⟨HNW.out, by omega, by rw [hlo.out]; exact hfp, fun hh => absurd hh hlf, hc⟩ : Fits lab os 0 k 0)
                  have hbe : (((cntF k os 0 : Nat) : Int) != nth lab k) = false := by simp [hc]
                  clear hc
                  go_wp2_with (go_at_call 57; refine (reCount_any _ _ _ _ (k : Int) 0 _ oa.has (by omega)).mono ?_; rintro e w' ⟨rfl, rfl⟩)
                  obtain ⟨wo, rfl⟩ : ∃ wo : World, wo = wr := ⟨_, rfl⟩
                  go_cut [11] from 42 to 89 (fun p11 wx => ∃ g a3 c3 b3 d3, p11 = .pointer (some ⟨g, 0, none⟩) ∧ BoxAt wx g (.slice a3 1 c3) (.slice b3 1 d3) ∧ Own wx V.heap.size a3 1 c3 (os ++ [(k : Int)]) ∧ Own wx V.heap.size b3 1 d3 (fs ++ [(0 : Int)]) ∧ Apart2 a3 b3 ∧ Below V.heap.size V wx)
                  case first =>
                    have hs1 := hbw.size
                    have hpn8 : 1 ≤ 2097152 := by omega
                    refine wp_region_of (by kernel_rfl) (by kernel_rfl) ?_
                    intro A0 hA
                    have e2 : A0.eval (.tmp 2) = .pointer (some ⟨w.heap.size, 0, none⟩) := by rw [hA]; rfl
                    have e8 : A0.eval (.tmp 8) = .int .i64 (k : Int) := by rw [hA]; rfl
                    have e10 : A0.eval (.tmp 10) = .int .i64 (0 : Int) := by rw [hA]; rfl
                    have hsz : A0.tmps.size = 92 := by rw [hA]; rfl
                    have LA := hid hA
                    clear hA
                    refine ⟨fun L x w' => (L 14 = false ∧ ∃ T tag, x = upd A0 goD T ∧ JGo V w.heap.size 0 a b ca cb (k : Int) (0 : Int) os fs L T w' tag) ∨ ((∀ j, j < 15 → L j = true) ∧ ∃ T, x = upd A0 goD T ∧ FinGo V 0 (k : Int) (0 : Int) os fs T w'), .inl ⟨rfl, _, _, upd_self.symm, JGo.start hb.drew⟩, ?_, ?_⟩
                    · rintro L x1 w1 (⟨h14, T, tag, rfl, J⟩ | ⟨hall, _⟩) i o ho hi hd
                      · have hi15 : i < 15 := (Array.getElem?_eq_some_iff.1 ho).1
                        have g2 := (upd_eval_ne (a0 := A0) (ds := goD) (T := T) (d := 2) (by decide)).trans e2
                        have g8 := (upd_eval_ne (a0 := A0) (ds := goD) (T := T) (d := 8) (by decide)).trans e8
                        have g10 := (upd_eval_ne (a0 := A0) (ds := goD) (T := T) (d := 10) (by decide)).trans e10
                        have gt : ∀ d, d ∈ goD → d < 92 → (upd A0 goD T).eval (.tmp d) = T d := fun d h1 h2 => upd_eval h1 (by rw [hsz]; exact h2)
                        have BXw := BX2.below J.bel (by omega)
                        have oaw := (oa1.below J.bel (Nat.le_refl _)).has
                        have obw := (ob1.below J.bel (Nat.le_refl _)).has
                        have hbw1 : Below w1.heap.size w1 w1 := Below.refl _ _
                        clear LA e2 e8 e10 hsz
                        rcases (by omega : i = 0 ∨ i = 1 ∨ i = 2 ∨ i = 3 ∨ i = 4 ∨ i = 5 ∨ i = 6 ∨ i = 7 ∨ i = 8 ∨ i = 9 ∨ i = 10 ∨ i = 11 ∨ i = 12 ∨ i = 13 ∨ i = 14) with rfl | rfl | rfl | rfl | rfl | rfl | rfl | rfl | rfl | rfl | rfl | rfl | rfl | rfl | rfl
                        all_goals (simp only [List.getElem?_toArray, List.getElem?_cons_succ, List.getElem?_cons_zero, Option.some.injEq] at ho; subst ho)
                        · exact op_pure rfl rfl _ (ex_field0 rfl g2) (.inl ⟨h14, _, _, upd_put _ (by decide), J.s0⟩)
                        · have d0 := hd ⟨0, .data⟩ (by simp) rfl
                          exact op_pure rfl rfl _ (ex_load rfl ((gt 69 (by decide) (by decide)).trans (J.p0 d0)) BXw.c0) (.inl ⟨h14, _, _, upd_put _ (by decide), J.s1⟩)
                        · have d1 := hd ⟨1, .data⟩ (by simp) rfl
                          refine op_call rfl rfl 58 _ _ rfl (fun args => ent_own args) #[.slice a 0 ca] (by simp [(gt 70 (by decide) (by decide)), J.p1 d1]) (l1Own_any _ _ _ os w1 oaw) ?_
                          rintro e w2 ⟨a4, c4, rfl, hown, hb4⟩
                          exact ⟨_, rfl, (.inl ⟨h14, _, _, upd_put _ (by decide), J.s2 hi hown hb4⟩)⟩
                        · exact op_pure rfl rfl _ (ex_move rfl g8) (.inl ⟨h14, _, _, upd_put _ (by decide), J.s3⟩)
                        · have d3 := hd ⟨3, .data⟩ (by simp) rfl
                          exact op_pure rfl rfl _ (ex_slice rfl ((gt 72 (by decide) (by decide)).trans (J.p3 d3))) (.inl ⟨h14, _, _, upd_put _ (by decide), J.s4 (hbw1.alloc (Nat.le_refl _) _) (by rw [World.cell?_alloc_at _ _ _ _ rfl]; rfl) (by simp)⟩)
                        · have d2 := hd ⟨2, .data⟩ (by simp) rfl
                          have d4 := hd ⟨4, .data⟩ (by simp) rfl
                          obtain ⟨a4, c4, h71, hF⟩ := J.A.1 d2 hi
                          obtain ⟨g4, h73, hC⟩ := J.C d4
                          refine op_append rfl rfl (.tmp 71) (.tmp 73) rfl ((gt 71 (by decide) (by decide)).trans h71) ((gt 73 (by decide) (by decide)).trans h73) hF hC hpn8 J.bel.size ?_
                          intro a5 c5 w2 hF2 hS hB5
                          exact (.inl ⟨h14, _, _, upd_put _ (by decide), J.s5 hi d2 hF2 hS hB5⟩)
                        · exact op_pure rfl rfl _ (ex_field1 rfl g2) (.inl ⟨h14, _, _, upd_put _ (by decide), J.s6⟩)
                        · have d6 := hd ⟨6, .data⟩ (by simp) rfl
                          exact op_pure rfl rfl _ (ex_load rfl ((gt 75 (by decide) (by decide)).trans (J.p6 d6)) BXw.c1) (.inl ⟨h14, _, _, upd_put _ (by decide), J.s7⟩)
                        · have d7 := hd ⟨7, .data⟩ (by simp) rfl
                          refine op_call rfl rfl 58 _ _ rfl (fun args => ent_own args) #[.slice b 0 cb] (by simp [(gt 76 (by decide) (by decide)), J.p7 d7]) (l1Own_any _ _ _ fs w1 obw) ?_
                          rintro e w2 ⟨a4, c4, rfl, hown, hb4⟩
                          exact ⟨_, rfl, (.inl ⟨h14, _, _, upd_put _ (by decide), J.s8 hi hown hb4⟩)⟩
                        · exact op_pure rfl rfl _ (ex_move rfl g10) (.inl ⟨h14, _, _, upd_put _ (by decide), J.s9⟩)
                        · have d9 := hd ⟨9, .data⟩ (by simp) rfl
                          exact op_pure rfl rfl _ (ex_slice rfl ((gt 78 (by decide) (by decide)).trans (J.p9 d9))) (.inl ⟨h14, _, _, upd_put _ (by decide), J.s10 (hbw1.alloc (Nat.le_refl _) _) (by rw [World.cell?_alloc_at _ _ _ _ rfl]; rfl) (by simp)⟩)
                        · have d8 := hd ⟨8, .data⟩ (by simp) rfl
                          have d10 := hd ⟨10, .data⟩ (by simp) rfl
                          obtain ⟨a4, c4, h71, hF⟩ := J.B.1 d8 hi
                          obtain ⟨g4, h73, hC⟩ := J.D d10
                          refine op_append rfl rfl (.tmp 77) (.tmp 79) rfl ((gt 77 (by decide) (by decide)).trans h71) ((gt 79 (by decide) (by decide)).trans h73) hF hC hpn8 J.bel.size ?_
                          intro a5 c5 w2 hF2 hS hB5
                          exact (.inl ⟨h14, _, _, upd_put _ (by decide), J.s11 hi d8 hF2 hS hB5⟩)
                        · have d5 := hd ⟨5, .data⟩ (by simp) rfl
                          have d11 := hd ⟨11, .data⟩ (by simp) rfl
                          obtain ⟨a4, c4, h74, -⟩ := J.A.2 d5
                          obtain ⟨b4, c5, h80, -⟩ := J.B.2 d11
                          refine op_pure rfl rfl (.agg #[T 74, T 80]) (by rw [h74, h80]; exact ex_build rfl ((gt 74 (by decide) (by decide)).trans h74) ((gt 80 (by decide) (by decide)).trans h80)) (.inl ⟨h14, _, _, upd_put _ (by decide), J.s12 d5 d11⟩)
                        · exact op_pure rfl rfl _ (ex_alloc rfl) (.inl ⟨h14, _, _, upd_put _ (by decide), J.s13 (hbw1.alloc (Nat.le_refl _) _) (boxAt_new _ _ _ _) (by simp)⟩)
                        · have d12 := hd ⟨12, .data⟩ (by simp) rfl
                          have d13 := hd ⟨13, .data⟩ (by simp) rfl
                          obtain ⟨g, a3, c3, b3, d3, hg, h81, hbx, hfin⟩ := J.last d12 d13
                          refine op_skip rfl rfl (ex_store rfl ((gt 11 (by decide) (by decide)).trans hg) ((gt 81 (by decide) (by decide)).trans h81) hbx) (.inr ⟨fun j hj => ?_, T, rfl, hfin⟩)
                          rcases (by omega : j = 14 ∨ j = 0 ∨ j = 1 ∨ j = 2 ∨ j = 3 ∨ j = 4 ∨ j = 5 ∨ j = 6 ∨ j = 7 ∨ j = 8 ∨ j = 9 ∨ j = 10 ∨ j = 11 ∨ j = 12 ∨ j = 13) with rfl | rfl | rfl | rfl | rfl | rfl | rfl | rfl | rfl | rfl | rfl | rfl | rfl | rfl | rfl
                          · rfl
                          · exact hd ⟨0, .phase⟩ (by simp) rfl
                          · exact hd ⟨1, .phase⟩ (by simp) rfl
                          · exact hd ⟨2, .phase⟩ (by simp) rfl
                          · exact hd ⟨3, .phase⟩ (by simp) rfl
                          · exact hd ⟨4, .phase⟩ (by simp) rfl
                          · exact hd ⟨5, .phase⟩ (by simp) rfl
                          · exact hd ⟨6, .phase⟩ (by simp) rfl
                          · exact hd ⟨7, .phase⟩ (by simp) rfl
                          · exact hd ⟨8, .phase⟩ (by simp) rfl
                          · exact hd ⟨9, .phase⟩ (by simp) rfl
                          · exact hd ⟨10, .phase⟩ (by simp) rfl
                          · exact hd ⟨11, .phase⟩ (by simp) rfl
                          · exact hd ⟨12, .phase⟩ (by simp) rfl
                          · exact hd ⟨13, .phase⟩ (by simp) rfl
                      · exact absurd (hall i (Array.getElem?_eq_some_iff.1 ho).1) (by rw [hi]; decide)
                    · rintro L x1 w1 (⟨h14, _⟩ | ⟨_, T, rfl, g, a3, c3, b3, d3, hg, hbx, hoa, hob, hap, hbv⟩) hall
                      · exact absurd (hall 14 (by decide)) (by rw [h14]; decide)
                      · have hA := LA.out
                        subst hA
                        unfold upd goD
                        simp only [List.foldl]
                        go_wp2_with fail
                        go_meet
                        exact ⟨g, a3, c3, b3, d3, rfl, hbx, hoa, hob, hap, hbv⟩
                  case rest =>
                    obtain ⟨g, a3, c3, b3', d3, rfl, BW, oa3, ob3, ap3, hb3⟩ := hcut
                    have hpp : 1 + d = n := by omega
                    have hcast : ((0 : Nat) : Int) = (0 : Int) := by omega
                    obtain ⟨w0, w1', w2', w3'⟩ := id BW
                    have hfn := S1.out k 0 hkn HF2.out
                    have hlc := h1.below hb3 (Nat.le_refl _)
                    have hs3 := hb3.size
                    clear z1 z2 z3 z4 q1 q2 q3 q4 B1 B2 oa ob hl hb hbw
                    by_cases he : st = some (k, 0)
                    · obtain ⟨G2, hR2⟩ := hfn.1 he
                      rw [hcast] at G2
                      have HR2 := hid hR2
                      have HG2 := hid G2
                      clear G2 hR2 hfn he
                      go_wp2_with fail
                      refine (HIH.out 1 hpp _ _ _ _ HG2.out a3 b3' _ c3 d3 cl wc V.heap.size oa3 ob3 ap3 hlc hs3).mono ?_
                      rintro e wy ⟨a5, n5, c5, b5, m5, d5, rfl, oa5, ob5, ap5, hb5⟩
                      rw [HR2.out]
                      have hbVy := hb3.trans (hb5.mono hs3)
                      have hsy := hbVy.size
                      have BY6 := (BY.below hbVy (by omega)).alloc (.cells #[.slice none 0 0, .slice none 0 0] 24)
                      obtain ⟨s1, s2, s3, s4⟩ := id BY6
                      have BY7 := (BY.below hbVy (by omega)).alloc (.cells #[.slice a5 n5 c5, .slice b5 m5 d5] 24)
                      obtain ⟨t1, t2, t3, t4⟩ := id BY7
                      have BZ := boxAt_new wy (.slice none 0 0) (.slice none 0 0) 24
                      obtain ⟨r1, r2, r3, r4⟩ := id BZ
                      have BZ7 := boxAt_new wy (.slice a5 n5 c5) (.slice b5 m5 d5) 24
                      obtain ⟨v1, v2, v3, v4⟩ := id BZ7
                      have hney : wy.heap.size ≠ w.heap.size + 1 := by omega
                      have hney2 : w.heap.size + 1 ≠ wy.heap.size := by omega
                      go_wp2_with fail
                      have lta5 := oa5.lt
                      have ltb5 := ob5.lt
                      have hbA := (Below.refl wy.heap.size wy).alloc (Nat.le_refl _) (.cells #[.slice a5 n5 c5, .slice b5 m5 d5] 24)
                      have oa6 := oa5.belowLt' hbA lta5
                      have ob6 := ob5.belowLt' hbA ltb5
                      have oa7 := ((oa6.setBelow (g := w.heap.size + 1) (i := 0) (by omega) (.slice a5 n5 c5)).setBelow (g := w.heap.size + 1) (i := 1) (by omega) (.slice b5 m5 d5)).mono (by omega : B ≤ V.heap.size)
                      have ob7 := ((ob6.setBelow (g := w.heap.size + 1) (i := 0) (by omega) (.slice a5 n5 c5)).setBelow (g := w.heap.size + 1) (i := 1) (by omega) (.slice b5 m5 d5)).mono (by omega : B ≤ V.heap.size)
                      have hbV7 := hb1.trans ((hbVy.alloc hsy (.cells #[.slice a5 n5 c5, .slice b5 m5 d5] 24)).mono (by omega : w.heap.size ≤ V.heap.size))
                      have hbf := (hbV7.setCell (p := ⟨w.heap.size + 1, 0, none⟩) (by simp) (.slice a5 n5 c5)).setCell (p := ⟨w.heap.size + 1, 1, none⟩) (by simp) (.slice b5 m5 d5)
                      refine bodyPost_ret (v := .tuple #[.agg #[.slice a5 n5 c5, .slice b5 m5 d5], .bool true]) (by simp [results, Try.results34, go_sem, *]) rfl ?_
                      unfold GoPost
                      rw [HR2.out]
                      exact ⟨_, _, _, _, _, _, rfl, oa7, ob7, ap5, hbf⟩
                    · have HN : Hid (∀ g, st = some (k, g) → 1 ≤ g) := hid (fun g e => by
                        have h1 := HF.out g e
                        by_cases e2 : g = 0
                        · subst e2; exact absurd e he
                        · omega)
                      have G2 := hfn.2 he
                      rw [hcast] at G2
                      have HG2 := hid G2
                      clear G2 hfn he
                      go_wp2_with (go_at_call 34; refine (HIH.out 1 hpp _ _ _ _ HG2.out a3 b3' _ c3 d3 cl wc V.heap.size oa3 ob3 ap3 hlc hs3).mono ?_; rintro e wy ⟨a5, n5, c5, b5, m5, d5, rfl, oa5, ob5, ap5, hb5⟩; have hbVy := hb3.trans (hb5.mono hs3); have hsy := hbVy.size; have BZ := boxAt_new wy (.slice none 0 0) (.slice none 0 0) 24; obtain ⟨r1, r2, r3, r4⟩ := id BZ)
                      have hbf : Below V.heap.size V (wy.alloc (.cells #[.slice a5 n5 c5, .slice b5 m5 d5] 24)) := hbVy.alloc hsy _
                      go_roundw
                      case rel => exact ⟨1, by omega, by omega, by go_num, HN, hbf⟩
                      case measure => simp [intOf] <;> omega
                · have hbe : (((cntF k os 0 : Nat) : Int) != nth lab k) = true := by simp [hc]
                  have HN := hid (HNX.out (fun F => hc F.cnt))
                  go_wp2_with (go_at_call 57; refine (reCount_any _ _ _ _ (k : Int) 0 _ oa.has (by omega)).mono ?_; rintro e w' ⟨rfl, rfl⟩)
                  go_roundw
                  case rel => exact ⟨1, by omega, by omega, by go_num, HN, hb⟩
                  case measure => simp [intOf] <;> omega
            · obtain rfl : f = 1 := by omega
              have HN : Hid (∀ i f, st = some (i, f) → k + 1 ≤ i) := hid (fun i f e => by
                have h1 := HK.out i f e
                by_cases e2 : i = k
                · subst e2
                  have h2 := HF.out f e
                  have h3 := (S3.out i f e).2.le
                  have := hlo.out
                  omega
                · omega)
              go_wp2_with fail
              go_roundw
              case rel => exact ⟨k + 1, by omega, by go_num, HN, hb⟩
              case measure => simp [intOf] <;> omega
      · obtain rfl : k = n := by omega
        have HR : Hid (R = (([], []), false)) := hid (S2.out (by
          cases hst : st with
          | none => rfl
          | some x => have h1 := HK.out x.1 x.2 (by rw [hst]); have h2 := (S3.out x.1 x.2 (by rw [hst])).1; omega))
        go_wp2_with fail
        have e1 := (B2.set0 (z := .slice none 0 0)).set1 (z := .slice none 0 0)
        obtain ⟨t1, t2, t3, t4⟩ := id e1
        refine bodyPost_ret (v := .tuple #[.agg #[.slice none 0 0, .slice none 0 0], .bool false]) (by simp [results, Try.results34, go_sem, *]) rfl ?_
        unfold GoPost
        rw [HR.out]
        exact ⟨_, _, _, _, _, _, rfl, Own.nil _ _, Own.nil _ _, apart_none _, (hbw.setCell (by simp) _).setCell (by simp) _⟩
  · obtain ⟨u, rfl⟩ : ∃ u, p = u + 1 := ⟨p - 1, by omega⟩
    obtain ⟨b2, off2, rfl, hcl⟩ := hfar (by omega)
    have hwu : IntKind.i64.wrap (((u + 1 : Nat) : Int) - 1) = (u : Int) := by rw [IntKind.wrap_i64]; omega
    have hup : (0 : Int) < ((u + 1 : Nat) : Int) := by omega
    have hne0 : ((u : Int) + 1 == (n : Int)) = false := by simp; omega
    have hu1 : (u : Int) < ((u + 1 : Nat) : Int) := by omega
    have hu0 : (0 : Int) ≤ (u : Int) := by omega
    rw [Nat.add_sub_cancel] at hcl
    go_enter Try.func34, Try.ntmps34
    go_wp2_with fail
    obtain ⟨V, hV⟩ : ∃ V, (w.alloc (.cells #[.slice a (u + 1) ca, .slice (some ⟨b2, off2, none⟩) (u + 1) cb] 24)).alloc (.cells #[.slice none 0 0, .slice none 0 0] 24) = V := ⟨_, rfl⟩
    rw [hV] at BX2 BY hb1 hs2 oa1 ob1 h1
    rw [hV]
    clear hV x0 x1 hb0 BX hs hcl
    go_loopw [32] (fun ii wr => ∃ k : Nat, k ≤ n ∧ ii = .int .i64 (k : Int) ∧ Hid (∀ i f, st = some (i, f) → k ≤ i) ∧ Below V.heap.size V wr) (fun ii _ => n - (intOf ii).toNat)
    case atStart => exact ⟨0, by omega, rfl, hid (fun _ _ _ => Nat.zero_le _), Below.refl _ _⟩
    case round =>
      obtain ⟨k, hk, rfl, HK, hb⟩ := hrel
      have B1 := BX2.below hb (by omega)
      have B2 := BY.below hb (by omega)
      have oa := oa1.below hb (Nat.le_refl _)
      have ob := ob1.below hb (Nat.le_refl _)
      have hl := h1.below hb (Nat.le_refl _)
      have hbw := hb1.trans (hb.mono (by omega))
      obtain ⟨z1, z2, z3, z4⟩ := id B1
      obtain ⟨q1, q2, q3, q4⟩ := id B2
      by_cases hkn : k < n
      · obtain ⟨b0, off0, rfl, hbb, hc⟩ := hl.2.2.2.2 (by omega)
        have hck := hc k hkn
        clear hc
        by_cases hh : hasB os k = true
        · have HH := hid hh
          have HN : Hid (∀ i f, st = some (i, f) → k + 1 ≤ i) := hid (fun i f e => by
            have h1 := HK.out i f e
            have h2 := (S3.out i f e).2.new
            by_cases e2 : i = k
            · subst e2; exact absurd (hasB_iff.1 hh) h2
            · omega)
          clear hh
          go_wp2_with (go_at_call 56; refine (l1Has_any _ _ _ _ _ _ oa.has).mono ?_; rintro e w' ⟨rfl, rfl⟩; rw [HH.out])
          go_roundw
          case rel => exact ⟨k + 1, by omega, by go_num, HN, hb⟩
          case measure => simp [intOf]; omega
        · have HH := hid (Bool.eq_false_iff.2 hh)
          have hnew : (k : Int) ∉ os := fun e => hh (hasB_iff.2 e)
          have HNW := hid hnew
          clear hh hnew
          go_wp2_with (go_at_call 56; refine (l1Has_any _ _ _ _ _ _ oa.has).mono ?_; rintro e w' ⟨rfl, rfl⟩; rw [HH.out])
          obtain ⟨wo, rfl⟩ : ∃ wo : World, wo = wr := ⟨_, rfl⟩
          go_loopw [10] (fun ff wr => ∃ f : Nat, l ≤ f ∧ f ≤ (u + 1) + 1 ∧ ff = .int .i64 (f : Int) ∧ Hid (∀ g, st = some (k, g) → f ≤ g) ∧ Below V.heap.size V wr) (fun ff _ => (u + 1) + 1 - (intOf ff).toNat)
          case atStart => exact ⟨l, by omega, by omega, rfl, hid (fun g e => (S3.out k g e).2.ge), hb⟩
          case round =>
            clear B1 B2 oa ob hl hbw z1 z2 z3 z4 q1 q2 q3 q4 hb hck
            obtain ⟨f, hf1, hf2, rfl, HF, hb⟩ := hrel
            have B1 := BX2.below hb (by omega)
            have B2 := BY.below hb (by omega)
            have oa := oa1.below hb (Nat.le_refl _)
            have ob := ob1.below hb (Nat.le_refl _)
            have hl := h1.below hb (Nat.le_refl _)
            have hbw := hb1.trans (hb.mono (by omega))
            obtain ⟨z1, z2, z3, z4⟩ := id B1
            obtain ⟨q1, q2, q3, q4⟩ := id B2
            have HNX : Hid ((¬ Fits lab os l k f) → ∀ g, st = some (k, g) → f + 1 ≤ g) := hid (fun hno g e => by
              have h1 := HF.out g e
              by_cases e2 : g = f
              · subst e2; exact absurd (S3.out k g e).2 hno
              · omega)
            by_cases hfp : f ≤ (u + 1)
            · skip
              by_cases hlf : l < f
              · obtain ⟨t, rfl⟩ : ∃ t, f = t + 1 := ⟨f - 1, by omega⟩
                obtain ⟨b3, off3, e3, hbb3, hc3⟩ := oa.has.2.2.2.2 (by omega)
                subst e3
                have hct := hc3 t (by omega)
                have hwt : IntKind.i64.wrap (((t + 1 : Nat) : Int) - 1) = (t : Int) := by rw [IntKind.wrap_i64]; omega
                have htp : (t : Int) < (((u + 1) : Nat) : Int) := by omega
                have ht0 : (0 : Int) ≤ (t : Int) := by omega
                have hl1 : (l : Int) < ((t + 1 : Nat) : Int) := by omega
                clear hc3
                by_cases hord : (k : Int) < nth os t
                · have HN := hid (HNX.out (fun F => F.ord hlf (by rw [Nat.add_sub_cancel]; exact hord)))
                  have hdo : decide ((k : Int) < nth os t) = true := decide_eq_true hord
                  go_wp2_with fail
                  go_roundw
                  case rel => exact ⟨t + 2, by omega, by omega, by go_num, HN, hb⟩
                  case measure => simp [intOf]; omega
                · have hdo : decide ((k : Int) < nth os t) = false := decide_eq_false hord
                  by_cases hc : (cntF k os (t + 1) : Int) = nth lab k
                  · skip
                    have HF2 := hid (⟨HNW.out, by omega, by rw [hlo.out]; exact hfp, fun _ => by rw [Nat.add_sub_cancel]; exact hord, hc⟩ : Fits lab os l k (t + 1))
                    have hbe : ((cntF k os (t + 1) : Int) != nth lab k) = false := by simp [hc]
                    clear hc
                    go_wp2_with (go_at_call 57; refine (reCount_any _ _ _ _ (k : Int) (t + 1) _ oa.has (by omega)).mono ?_; rintro e w' ⟨rfl, rfl⟩)
                    obtain ⟨wo, rfl⟩ : ∃ wo : World, wo = wr := ⟨_, rfl⟩
                    go_cut [11] from 42 to 89 (fun p11 wx => ∃ g a3 c3 b3 d3, p11 = .pointer (some ⟨g, 0, none⟩) ∧ BoxAt wx g (.slice a3 ((u + 1) + 1) c3) (.slice b3 ((u + 1) + 1) d3) ∧ Own wx V.heap.size a3 ((u + 1) + 1) c3 (os ++ [(k : Int)]) ∧ Own wx V.heap.size b3 ((u + 1) + 1) d3 (fs ++ [((t + 1) : Int)]) ∧ Apart2 a3 b3 ∧ Below V.heap.size V wx)
                    case first =>
                      have hs1 := hbw.size
                      have hpn8 : (u + 1) + 1 ≤ 2097152 := by omega
                      refine wp_region_of (by kernel_rfl) (by kernel_rfl) ?_
                      intro A0 hA
                      have e2 : A0.eval (.tmp 2) = .pointer (some ⟨w.heap.size, 0, none⟩) := by rw [hA]; rfl
                      have e8 : A0.eval (.tmp 8) = .int .i64 (k : Int) := by rw [hA]; rfl
                      have e10 : A0.eval (.tmp 10) = .int .i64 ((t : Int) + 1) := by rw [hA]; rfl
                      have hsz : A0.tmps.size = 92 := by rw [hA]; rfl
                      have LA := hid hA
                      clear hA
                      refine ⟨fun L x w' => (L 14 = false ∧ ∃ T tag, x = upd A0 goD T ∧ JGo V w.heap.size (u + 1) (some ⟨b3, off3, none⟩) (some ⟨b2, off2, none⟩) ca cb (k : Int) ((t : Int) + 1) os fs L T w' tag) ∨ ((∀ j, j < 15 → L j = true) ∧ ∃ T, x = upd A0 goD T ∧ FinGo V (u + 1) (k : Int) ((t : Int) + 1) os fs T w'), .inl ⟨rfl, _, _, upd_self.symm, JGo.start hb.drew⟩, ?_, ?_⟩
                      · rintro L x1 w1 (⟨h14, T, tag, rfl, J⟩ | ⟨hall, _⟩) i o ho hi hd
                        · have hi15 : i < 15 := (Array.getElem?_eq_some_iff.1 ho).1
                          have g2 := (upd_eval_ne (a0 := A0) (ds := goD) (T := T) (d := 2) (by decide)).trans e2
                          have g8 := (upd_eval_ne (a0 := A0) (ds := goD) (T := T) (d := 8) (by decide)).trans e8
                          have g10 := (upd_eval_ne (a0 := A0) (ds := goD) (T := T) (d := 10) (by decide)).trans e10
                          have gt : ∀ d, d ∈ goD → d < 92 → (upd A0 goD T).eval (.tmp d) = T d := fun d h1 h2 => upd_eval h1 (by rw [hsz]; exact h2)
                          have BXw := BX2.below J.bel (by omega)
                          have oaw := (oa1.below J.bel (Nat.le_refl _)).has
                          have obw := (ob1.below J.bel (Nat.le_refl _)).has
                          have hbw1 : Below w1.heap.size w1 w1 := Below.refl _ _
                          clear LA e2 e8 e10 hsz
                          rcases (by omega : i = 0 ∨ i = 1 ∨ i = 2 ∨ i = 3 ∨ i = 4 ∨ i = 5 ∨ i = 6 ∨ i = 7 ∨ i = 8 ∨ i = 9 ∨ i = 10 ∨ i = 11 ∨ i = 12 ∨ i = 13 ∨ i = 14) with rfl | rfl | rfl | rfl | rfl | rfl | rfl | rfl | rfl | rfl | rfl | rfl | rfl | rfl | rfl
                          all_goals (simp only [List.getElem?_toArray, List.getElem?_cons_succ, List.getElem?_cons_zero, Option.some.injEq] at ho; subst ho)
                          · exact op_pure rfl rfl _ (ex_field0 rfl g2) (.inl ⟨h14, _, _, upd_put _ (by decide), J.s0⟩)
                          · have d0 := hd ⟨0, .data⟩ (by simp) rfl
                            exact op_pure rfl rfl _ (ex_load rfl ((gt 69 (by decide) (by decide)).trans (J.p0 d0)) BXw.c0) (.inl ⟨h14, _, _, upd_put _ (by decide), J.s1⟩)
                          · have d1 := hd ⟨1, .data⟩ (by simp) rfl
                            refine op_call rfl rfl 58 _ _ rfl (fun args => ent_own args) #[.slice (some ⟨b3, off3, none⟩) (u + 1) ca] (by simp [(gt 70 (by decide) (by decide)), J.p1 d1]) (l1Own_any _ _ _ os w1 oaw) ?_
                            rintro e w2 ⟨a4, c4, rfl, hown, hb4⟩
                            exact ⟨_, rfl, (.inl ⟨h14, _, _, upd_put _ (by decide), J.s2 hi hown hb4⟩)⟩
                          · exact op_pure rfl rfl _ (ex_move rfl g8) (.inl ⟨h14, _, _, upd_put _ (by decide), J.s3⟩)
                          · have d3 := hd ⟨3, .data⟩ (by simp) rfl
                            exact op_pure rfl rfl _ (ex_slice rfl ((gt 72 (by decide) (by decide)).trans (J.p3 d3))) (.inl ⟨h14, _, _, upd_put _ (by decide), J.s4 (hbw1.alloc (Nat.le_refl _) _) (by rw [World.cell?_alloc_at _ _ _ _ rfl]; rfl) (by simp)⟩)
                          · have d2 := hd ⟨2, .data⟩ (by simp) rfl
                            have d4 := hd ⟨4, .data⟩ (by simp) rfl
                            obtain ⟨a4, c4, h71, hF⟩ := J.A.1 d2 hi
                            obtain ⟨g4, h73, hC⟩ := J.C d4
                            refine op_append rfl rfl (.tmp 71) (.tmp 73) rfl ((gt 71 (by decide) (by decide)).trans h71) ((gt 73 (by decide) (by decide)).trans h73) hF hC hpn8 J.bel.size ?_
                            intro a5 c5 w2 hF2 hS hB5
                            exact (.inl ⟨h14, _, _, upd_put _ (by decide), J.s5 hi d2 hF2 hS hB5⟩)
                          · exact op_pure rfl rfl _ (ex_field1 rfl g2) (.inl ⟨h14, _, _, upd_put _ (by decide), J.s6⟩)
                          · have d6 := hd ⟨6, .data⟩ (by simp) rfl
                            exact op_pure rfl rfl _ (ex_load rfl ((gt 75 (by decide) (by decide)).trans (J.p6 d6)) BXw.c1) (.inl ⟨h14, _, _, upd_put _ (by decide), J.s7⟩)
                          · have d7 := hd ⟨7, .data⟩ (by simp) rfl
                            refine op_call rfl rfl 58 _ _ rfl (fun args => ent_own args) #[.slice (some ⟨b2, off2, none⟩) (u + 1) cb] (by simp [(gt 76 (by decide) (by decide)), J.p7 d7]) (l1Own_any _ _ _ fs w1 obw) ?_
                            rintro e w2 ⟨a4, c4, rfl, hown, hb4⟩
                            exact ⟨_, rfl, (.inl ⟨h14, _, _, upd_put _ (by decide), J.s8 hi hown hb4⟩)⟩
                          · exact op_pure rfl rfl _ (ex_move rfl g10) (.inl ⟨h14, _, _, upd_put _ (by decide), J.s9⟩)
                          · have d9 := hd ⟨9, .data⟩ (by simp) rfl
                            exact op_pure rfl rfl _ (ex_slice rfl ((gt 78 (by decide) (by decide)).trans (J.p9 d9))) (.inl ⟨h14, _, _, upd_put _ (by decide), J.s10 (hbw1.alloc (Nat.le_refl _) _) (by rw [World.cell?_alloc_at _ _ _ _ rfl]; rfl) (by simp)⟩)
                          · have d8 := hd ⟨8, .data⟩ (by simp) rfl
                            have d10 := hd ⟨10, .data⟩ (by simp) rfl
                            obtain ⟨a4, c4, h71, hF⟩ := J.B.1 d8 hi
                            obtain ⟨g4, h73, hC⟩ := J.D d10
                            refine op_append rfl rfl (.tmp 77) (.tmp 79) rfl ((gt 77 (by decide) (by decide)).trans h71) ((gt 79 (by decide) (by decide)).trans h73) hF hC hpn8 J.bel.size ?_
                            intro a5 c5 w2 hF2 hS hB5
                            exact (.inl ⟨h14, _, _, upd_put _ (by decide), J.s11 hi d8 hF2 hS hB5⟩)
                          · have d5 := hd ⟨5, .data⟩ (by simp) rfl
                            have d11 := hd ⟨11, .data⟩ (by simp) rfl
                            obtain ⟨a4, c4, h74, -⟩ := J.A.2 d5
                            obtain ⟨b4, c5, h80, -⟩ := J.B.2 d11
                            refine op_pure rfl rfl (.agg #[T 74, T 80]) (by rw [h74, h80]; exact ex_build rfl ((gt 74 (by decide) (by decide)).trans h74) ((gt 80 (by decide) (by decide)).trans h80)) (.inl ⟨h14, _, _, upd_put _ (by decide), J.s12 d5 d11⟩)
                          · exact op_pure rfl rfl _ (ex_alloc rfl) (.inl ⟨h14, _, _, upd_put _ (by decide), J.s13 (hbw1.alloc (Nat.le_refl _) _) (boxAt_new _ _ _ _) (by simp)⟩)
                          · have d12 := hd ⟨12, .data⟩ (by simp) rfl
                            have d13 := hd ⟨13, .data⟩ (by simp) rfl
                            obtain ⟨g, a3, c3, b3, d3, hg, h81, hbx, hfin⟩ := J.last d12 d13
                            refine op_skip rfl rfl (ex_store rfl ((gt 11 (by decide) (by decide)).trans hg) ((gt 81 (by decide) (by decide)).trans h81) hbx) (.inr ⟨fun j hj => ?_, T, rfl, hfin⟩)
                            rcases (by omega : j = 14 ∨ j = 0 ∨ j = 1 ∨ j = 2 ∨ j = 3 ∨ j = 4 ∨ j = 5 ∨ j = 6 ∨ j = 7 ∨ j = 8 ∨ j = 9 ∨ j = 10 ∨ j = 11 ∨ j = 12 ∨ j = 13) with rfl | rfl | rfl | rfl | rfl | rfl | rfl | rfl | rfl | rfl | rfl | rfl | rfl | rfl | rfl
                            · rfl
                            · exact hd ⟨0, .phase⟩ (by simp) rfl
                            · exact hd ⟨1, .phase⟩ (by simp) rfl
                            · exact hd ⟨2, .phase⟩ (by simp) rfl
                            · exact hd ⟨3, .phase⟩ (by simp) rfl
                            · exact hd ⟨4, .phase⟩ (by simp) rfl
                            · exact hd ⟨5, .phase⟩ (by simp) rfl
                            · exact hd ⟨6, .phase⟩ (by simp) rfl
                            · exact hd ⟨7, .phase⟩ (by simp) rfl
                            · exact hd ⟨8, .phase⟩ (by simp) rfl
                            · exact hd ⟨9, .phase⟩ (by simp) rfl
                            · exact hd ⟨10, .phase⟩ (by simp) rfl
                            · exact hd ⟨11, .phase⟩ (by simp) rfl
                            · exact hd ⟨12, .phase⟩ (by simp) rfl
                            · exact hd ⟨13, .phase⟩ (by simp) rfl
                        · exact absurd (hall i (Array.getElem?_eq_some_iff.1 ho).1) (by rw [hi]; decide)
                      · rintro L x1 w1 (⟨h14, _⟩ | ⟨_, T, rfl, g, a3, c3, b3, d3, hg, hbx, hoa, hob, hap, hbv⟩) hall
                        · exact absurd (hall 14 (by decide)) (by rw [h14]; decide)
                        · have hA := LA.out
                          subst hA
                          unfold upd goD
                          simp only [List.foldl]
                          go_wp2_with fail
                          go_meet
                          exact ⟨g, a3, c3, b3, d3, rfl, hbx, hoa, hob, hap, hbv⟩
                    case rest =>
                      obtain ⟨g, a3, c3, b3', d3, rfl, BW, oa3, ob3, ap3, hb3⟩ := hcut
                      have hpp : ((u + 1) + 1) + d = n := by omega
                      have hcast : (((t + 1) : Nat) : Int) = ((t : Int) + 1) := by omega
                      obtain ⟨w0, w1', w2', w3'⟩ := id BW
                      have hfn := S1.out k (t + 1) hkn HF2.out
                      have hlc := h1.below hb3 (Nat.le_refl _)
                      have hs3 := hb3.size
                      clear z1 z2 z3 z4 q1 q2 q3 q4 B1 B2 oa ob hl hb hbw
                      by_cases he : st = some (k, (t + 1))
                      · obtain ⟨G2, hR2⟩ := hfn.1 he
                        rw [hcast] at G2
                        have HR2 := hid hR2
                        have HG2 := hid G2
                        clear G2 hR2 hfn he
                        go_wp2_with fail
                        refine (HIH.out ((u + 1) + 1) hpp _ _ _ _ HG2.out a3 b3' _ c3 d3 cl wc V.heap.size oa3 ob3 ap3 hlc hs3).mono ?_
                        rintro e wy ⟨a5, n5, c5, b5, m5, d5, rfl, oa5, ob5, ap5, hb5⟩
                        rw [HR2.out]
                        have hbVy := hb3.trans (hb5.mono hs3)
                        have hsy := hbVy.size
                        have BY6 := (BY.below hbVy (by omega)).alloc (.cells #[.slice none 0 0, .slice none 0 0] 24)
                        obtain ⟨s1, s2, s3, s4⟩ := id BY6
                        have BY7 := (BY.below hbVy (by omega)).alloc (.cells #[.slice a5 n5 c5, .slice b5 m5 d5] 24)
                        obtain ⟨t1, t2, t3, t4⟩ := id BY7
                        have BZ := boxAt_new wy (.slice none 0 0) (.slice none 0 0) 24
                        obtain ⟨r1, r2, r3, r4⟩ := id BZ
                        have BZ7 := boxAt_new wy (.slice a5 n5 c5) (.slice b5 m5 d5) 24
                        obtain ⟨v1, v2, v3, v4⟩ := id BZ7
                        have hney : wy.heap.size ≠ w.heap.size + 1 := by omega
                        have hney2 : w.heap.size + 1 ≠ wy.heap.size := by omega
                        go_wp2_with fail
                        have lta5 := oa5.lt
                        have ltb5 := ob5.lt
                        have hbA := (Below.refl wy.heap.size wy).alloc (Nat.le_refl _) (.cells #[.slice a5 n5 c5, .slice b5 m5 d5] 24)
                        have oa6 := oa5.belowLt' hbA lta5
                        have ob6 := ob5.belowLt' hbA ltb5
                        have oa7 := ((oa6.setBelow (g := w.heap.size + 1) (i := 0) (by omega) (.slice a5 n5 c5)).setBelow (g := w.heap.size + 1) (i := 1) (by omega) (.slice b5 m5 d5)).mono (by omega : B ≤ V.heap.size)
                        have ob7 := ((ob6.setBelow (g := w.heap.size + 1) (i := 0) (by omega) (.slice a5 n5 c5)).setBelow (g := w.heap.size + 1) (i := 1) (by omega) (.slice b5 m5 d5)).mono (by omega : B ≤ V.heap.size)
                        have hbV7 := hb1.trans ((hbVy.alloc hsy (.cells #[.slice a5 n5 c5, .slice b5 m5 d5] 24)).mono (by omega : w.heap.size ≤ V.heap.size))
                        have hbf := (hbV7.setCell (p := ⟨w.heap.size + 1, 0, none⟩) (by simp) (.slice a5 n5 c5)).setCell (p := ⟨w.heap.size + 1, 1, none⟩) (by simp) (.slice b5 m5 d5)
                        refine bodyPost_ret (v := .tuple #[.agg #[.slice a5 n5 c5, .slice b5 m5 d5], .bool true]) (by simp [results, Try.results34, go_sem, *]) rfl ?_
                        unfold GoPost
                        rw [HR2.out]
                        exact ⟨_, _, _, _, _, _, rfl, oa7, ob7, ap5, hbf⟩
                      · have HN : Hid (∀ g, st = some (k, g) → (t + 1) + 1 ≤ g) := hid (fun g e => by
                          have h1 := HF.out g e
                          by_cases e2 : g = (t + 1)
                          · subst e2; exact absurd e he
                          · omega)
                        have G2 := hfn.2 he
                        rw [hcast] at G2
                        have HG2 := hid G2
                        clear G2 hfn he
                        go_wp2_with (go_at_call 34; refine (HIH.out ((u + 1) + 1) hpp _ _ _ _ HG2.out a3 b3' _ c3 d3 cl wc V.heap.size oa3 ob3 ap3 hlc hs3).mono ?_; rintro e wy ⟨a5, n5, c5, b5, m5, d5, rfl, oa5, ob5, ap5, hb5⟩; have hbVy := hb3.trans (hb5.mono hs3); have hsy := hbVy.size; have BZ := boxAt_new wy (.slice none 0 0) (.slice none 0 0) 24; obtain ⟨r1, r2, r3, r4⟩ := id BZ)
                        have hbf : Below V.heap.size V (wy.alloc (.cells #[.slice a5 n5 c5, .slice b5 m5 d5] 24)) := hbVy.alloc hsy _
                        go_roundw
                        case rel => exact ⟨(t + 1) + 1, by omega, by omega, by go_num, HN, hbf⟩
                        case measure => simp [intOf]; omega
                  · have hbe : ((cntF k os (t + 1) : Int) != nth lab k) = true := by simp [hc]
                    have HN := hid (HNX.out (fun F => hc F.cnt))
                    go_wp2_with (go_at_call 57; refine (reCount_any _ _ _ _ (k : Int) (t + 1) _ oa.has (by omega)).mono ?_; rintro e w' ⟨rfl, rfl⟩)
                    go_roundw
                    case rel => exact ⟨t + 2, by omega, by omega, by go_num, HN, hb⟩
                    case measure => simp [intOf]; omega
              · have hl1 : ¬ (l : Int) < (f : Int) := by omega
                by_cases hc : (cntF k os f : Int) = nth lab k
                · skip
                  have HF2 := hid (⟨HNW.out, by omega, by rw [hlo.out]; exact hfp, fun hh => absurd hh hlf, hc⟩ : Fits lab os l k f)
                  have hbe : ((cntF k os f : Int) != nth lab k) = false := by simp [hc]
                  clear hc
                  go_wp2_with (go_at_call 57; refine (reCount_any _ _ _ _ (k : Int) f _ oa.has (by omega)).mono ?_; rintro e w' ⟨rfl, rfl⟩)
                  obtain ⟨wo, rfl⟩ : ∃ wo : World, wo = wr := ⟨_, rfl⟩
                  go_cut [11] from 42 to 89 (fun p11 wx => ∃ g a3 c3 b3 d3, p11 = .pointer (some ⟨g, 0, none⟩) ∧ BoxAt wx g (.slice a3 ((u + 1) + 1) c3) (.slice b3 ((u + 1) + 1) d3) ∧ Own wx V.heap.size a3 ((u + 1) + 1) c3 (os ++ [(k : Int)]) ∧ Own wx V.heap.size b3 ((u + 1) + 1) d3 (fs ++ [(f : Int)]) ∧ Apart2 a3 b3 ∧ Below V.heap.size V wx)
                  case first =>
                    have hs1 := hbw.size
                    have hpn8 : (u + 1) + 1 ≤ 2097152 := by omega
                    refine wp_region_of (by kernel_rfl) (by kernel_rfl) ?_
                    intro A0 hA
                    have e2 : A0.eval (.tmp 2) = .pointer (some ⟨w.heap.size, 0, none⟩) := by rw [hA]; rfl
                    have e8 : A0.eval (.tmp 8) = .int .i64 (k : Int) := by rw [hA]; rfl
                    have e10 : A0.eval (.tmp 10) = .int .i64 (f : Int) := by rw [hA]; rfl
                    have hsz : A0.tmps.size = 92 := by rw [hA]; rfl
                    have LA := hid hA
                    clear hA
                    refine ⟨fun L x w' => (L 14 = false ∧ ∃ T tag, x = upd A0 goD T ∧ JGo V w.heap.size (u + 1) a (some ⟨b2, off2, none⟩) ca cb (k : Int) (f : Int) os fs L T w' tag) ∨ ((∀ j, j < 15 → L j = true) ∧ ∃ T, x = upd A0 goD T ∧ FinGo V (u + 1) (k : Int) (f : Int) os fs T w'), .inl ⟨rfl, _, _, upd_self.symm, JGo.start hb.drew⟩, ?_, ?_⟩
                    · rintro L x1 w1 (⟨h14, T, tag, rfl, J⟩ | ⟨hall, _⟩) i o ho hi hd
                      · have hi15 : i < 15 := (Array.getElem?_eq_some_iff.1 ho).1
                        have g2 := (upd_eval_ne (a0 := A0) (ds := goD) (T := T) (d := 2) (by decide)).trans e2
                        have g8 := (upd_eval_ne (a0 := A0) (ds := goD) (T := T) (d := 8) (by decide)).trans e8
                        have g10 := (upd_eval_ne (a0 := A0) (ds := goD) (T := T) (d := 10) (by decide)).trans e10
                        have gt : ∀ d, d ∈ goD → d < 92 → (upd A0 goD T).eval (.tmp d) = T d := fun d h1 h2 => upd_eval h1 (by rw [hsz]; exact h2)
                        have BXw := BX2.below J.bel (by omega)
                        have oaw := (oa1.below J.bel (Nat.le_refl _)).has
                        have obw := (ob1.below J.bel (Nat.le_refl _)).has
                        have hbw1 : Below w1.heap.size w1 w1 := Below.refl _ _
                        clear LA e2 e8 e10 hsz
                        rcases (by omega : i = 0 ∨ i = 1 ∨ i = 2 ∨ i = 3 ∨ i = 4 ∨ i = 5 ∨ i = 6 ∨ i = 7 ∨ i = 8 ∨ i = 9 ∨ i = 10 ∨ i = 11 ∨ i = 12 ∨ i = 13 ∨ i = 14) with rfl | rfl | rfl | rfl | rfl | rfl | rfl | rfl | rfl | rfl | rfl | rfl | rfl | rfl | rfl
                        all_goals (simp only [List.getElem?_toArray, List.getElem?_cons_succ, List.getElem?_cons_zero, Option.some.injEq] at ho; subst ho)
                        · exact op_pure rfl rfl _ (ex_field0 rfl g2) (.inl ⟨h14, _, _, upd_put _ (by decide), J.s0⟩)
                        · have d0 := hd ⟨0, .data⟩ (by simp) rfl
                          exact op_pure rfl rfl _ (ex_load rfl ((gt 69 (by decide) (by decide)).trans (J.p0 d0)) BXw.c0) (.inl ⟨h14, _, _, upd_put _ (by decide), J.s1⟩)
                        · have d1 := hd ⟨1, .data⟩ (by simp) rfl
                          refine op_call rfl rfl 58 _ _ rfl (fun args => ent_own args) #[.slice a (u + 1) ca] (by simp [(gt 70 (by decide) (by decide)), J.p1 d1]) (l1Own_any _ _ _ os w1 oaw) ?_
                          rintro e w2 ⟨a4, c4, rfl, hown, hb4⟩
                          exact ⟨_, rfl, (.inl ⟨h14, _, _, upd_put _ (by decide), J.s2 hi hown hb4⟩)⟩
                        · exact op_pure rfl rfl _ (ex_move rfl g8) (.inl ⟨h14, _, _, upd_put _ (by decide), J.s3⟩)
                        · have d3 := hd ⟨3, .data⟩ (by simp) rfl
                          exact op_pure rfl rfl _ (ex_slice rfl ((gt 72 (by decide) (by decide)).trans (J.p3 d3))) (.inl ⟨h14, _, _, upd_put _ (by decide), J.s4 (hbw1.alloc (Nat.le_refl _) _) (by rw [World.cell?_alloc_at _ _ _ _ rfl]; rfl) (by simp)⟩)
                        · have d2 := hd ⟨2, .data⟩ (by simp) rfl
                          have d4 := hd ⟨4, .data⟩ (by simp) rfl
                          obtain ⟨a4, c4, h71, hF⟩ := J.A.1 d2 hi
                          obtain ⟨g4, h73, hC⟩ := J.C d4
                          refine op_append rfl rfl (.tmp 71) (.tmp 73) rfl ((gt 71 (by decide) (by decide)).trans h71) ((gt 73 (by decide) (by decide)).trans h73) hF hC hpn8 J.bel.size ?_
                          intro a5 c5 w2 hF2 hS hB5
                          exact (.inl ⟨h14, _, _, upd_put _ (by decide), J.s5 hi d2 hF2 hS hB5⟩)
                        · exact op_pure rfl rfl _ (ex_field1 rfl g2) (.inl ⟨h14, _, _, upd_put _ (by decide), J.s6⟩)
                        · have d6 := hd ⟨6, .data⟩ (by simp) rfl
                          exact op_pure rfl rfl _ (ex_load rfl ((gt 75 (by decide) (by decide)).trans (J.p6 d6)) BXw.c1) (.inl ⟨h14, _, _, upd_put _ (by decide), J.s7⟩)
                        · have d7 := hd ⟨7, .data⟩ (by simp) rfl
                          refine op_call rfl rfl 58 _ _ rfl (fun args => ent_own args) #[.slice (some ⟨b2, off2, none⟩) (u + 1) cb] (by simp [(gt 76 (by decide) (by decide)), J.p7 d7]) (l1Own_any _ _ _ fs w1 obw) ?_
                          rintro e w2 ⟨a4, c4, rfl, hown, hb4⟩
                          exact ⟨_, rfl, (.inl ⟨h14, _, _, upd_put _ (by decide), J.s8 hi hown hb4⟩)⟩
                        · exact op_pure rfl rfl _ (ex_move rfl g10) (.inl ⟨h14, _, _, upd_put _ (by decide), J.s9⟩)
                        · have d9 := hd ⟨9, .data⟩ (by simp) rfl
                          exact op_pure rfl rfl _ (ex_slice rfl ((gt 78 (by decide) (by decide)).trans (J.p9 d9))) (.inl ⟨h14, _, _, upd_put _ (by decide), J.s10 (hbw1.alloc (Nat.le_refl _) _) (by rw [World.cell?_alloc_at _ _ _ _ rfl]; rfl) (by simp)⟩)
                        · have d8 := hd ⟨8, .data⟩ (by simp) rfl
                          have d10 := hd ⟨10, .data⟩ (by simp) rfl
                          obtain ⟨a4, c4, h71, hF⟩ := J.B.1 d8 hi
                          obtain ⟨g4, h73, hC⟩ := J.D d10
                          refine op_append rfl rfl (.tmp 77) (.tmp 79) rfl ((gt 77 (by decide) (by decide)).trans h71) ((gt 79 (by decide) (by decide)).trans h73) hF hC hpn8 J.bel.size ?_
                          intro a5 c5 w2 hF2 hS hB5
                          exact (.inl ⟨h14, _, _, upd_put _ (by decide), J.s11 hi d8 hF2 hS hB5⟩)
                        · have d5 := hd ⟨5, .data⟩ (by simp) rfl
                          have d11 := hd ⟨11, .data⟩ (by simp) rfl
                          obtain ⟨a4, c4, h74, -⟩ := J.A.2 d5
                          obtain ⟨b4, c5, h80, -⟩ := J.B.2 d11
                          refine op_pure rfl rfl (.agg #[T 74, T 80]) (by rw [h74, h80]; exact ex_build rfl ((gt 74 (by decide) (by decide)).trans h74) ((gt 80 (by decide) (by decide)).trans h80)) (.inl ⟨h14, _, _, upd_put _ (by decide), J.s12 d5 d11⟩)
                        · exact op_pure rfl rfl _ (ex_alloc rfl) (.inl ⟨h14, _, _, upd_put _ (by decide), J.s13 (hbw1.alloc (Nat.le_refl _) _) (boxAt_new _ _ _ _) (by simp)⟩)
                        · have d12 := hd ⟨12, .data⟩ (by simp) rfl
                          have d13 := hd ⟨13, .data⟩ (by simp) rfl
                          obtain ⟨g, a3, c3, b3, d3, hg, h81, hbx, hfin⟩ := J.last d12 d13
                          refine op_skip rfl rfl (ex_store rfl ((gt 11 (by decide) (by decide)).trans hg) ((gt 81 (by decide) (by decide)).trans h81) hbx) (.inr ⟨fun j hj => ?_, T, rfl, hfin⟩)
                          rcases (by omega : j = 14 ∨ j = 0 ∨ j = 1 ∨ j = 2 ∨ j = 3 ∨ j = 4 ∨ j = 5 ∨ j = 6 ∨ j = 7 ∨ j = 8 ∨ j = 9 ∨ j = 10 ∨ j = 11 ∨ j = 12 ∨ j = 13) with rfl | rfl | rfl | rfl | rfl | rfl | rfl | rfl | rfl | rfl | rfl | rfl | rfl | rfl | rfl
                          · rfl
                          · exact hd ⟨0, .phase⟩ (by simp) rfl
                          · exact hd ⟨1, .phase⟩ (by simp) rfl
                          · exact hd ⟨2, .phase⟩ (by simp) rfl
                          · exact hd ⟨3, .phase⟩ (by simp) rfl
                          · exact hd ⟨4, .phase⟩ (by simp) rfl
                          · exact hd ⟨5, .phase⟩ (by simp) rfl
                          · exact hd ⟨6, .phase⟩ (by simp) rfl
                          · exact hd ⟨7, .phase⟩ (by simp) rfl
                          · exact hd ⟨8, .phase⟩ (by simp) rfl
                          · exact hd ⟨9, .phase⟩ (by simp) rfl
                          · exact hd ⟨10, .phase⟩ (by simp) rfl
                          · exact hd ⟨11, .phase⟩ (by simp) rfl
                          · exact hd ⟨12, .phase⟩ (by simp) rfl
                          · exact hd ⟨13, .phase⟩ (by simp) rfl
                      · exact absurd (hall i (Array.getElem?_eq_some_iff.1 ho).1) (by rw [hi]; decide)
                    · rintro L x1 w1 (⟨h14, _⟩ | ⟨_, T, rfl, g, a3, c3, b3, d3, hg, hbx, hoa, hob, hap, hbv⟩) hall
                      · exact absurd (hall 14 (by decide)) (by rw [h14]; decide)
                      · have hA := LA.out
                        subst hA
                        unfold upd goD
                        simp only [List.foldl]
                        go_wp2_with fail
                        go_meet
                        exact ⟨g, a3, c3, b3, d3, rfl, hbx, hoa, hob, hap, hbv⟩
                  case rest =>
                    obtain ⟨g, a3, c3, b3', d3, rfl, BW, oa3, ob3, ap3, hb3⟩ := hcut
                    have hpp : ((u + 1) + 1) + d = n := by omega
                    have hcast : ((f : Nat) : Int) = (f : Int) := by omega
                    obtain ⟨w0, w1', w2', w3'⟩ := id BW
                    have hfn := S1.out k f hkn HF2.out
                    have hlc := h1.below hb3 (Nat.le_refl _)
                    have hs3 := hb3.size
                    clear z1 z2 z3 z4 q1 q2 q3 q4 B1 B2 oa ob hl hb hbw
                    by_cases he : st = some (k, f)
                    · obtain ⟨G2, hR2⟩ := hfn.1 he
                      rw [hcast] at G2
                      have HR2 := hid hR2
                      have HG2 := hid G2
                      clear G2 hR2 hfn he
                      go_wp2_with fail
                      refine (HIH.out ((u + 1) + 1) hpp _ _ _ _ HG2.out a3 b3' _ c3 d3 cl wc V.heap.size oa3 ob3 ap3 hlc hs3).mono ?_
                      rintro e wy ⟨a5, n5, c5, b5, m5, d5, rfl, oa5, ob5, ap5, hb5⟩
                      rw [HR2.out]
                      have hbVy := hb3.trans (hb5.mono hs3)
                      have hsy := hbVy.size
                      have BY6 := (BY.below hbVy (by omega)).alloc (.cells #[.slice none 0 0, .slice none 0 0] 24)
                      obtain ⟨s1, s2, s3, s4⟩ := id BY6
                      have BY7 := (BY.below hbVy (by omega)).alloc (.cells #[.slice a5 n5 c5, .slice b5 m5 d5] 24)
                      obtain ⟨t1, t2, t3, t4⟩ := id BY7
                      have BZ := boxAt_new wy (.slice none 0 0) (.slice none 0 0) 24
                      obtain ⟨r1, r2, r3, r4⟩ := id BZ
                      have BZ7 := boxAt_new wy (.slice a5 n5 c5) (.slice b5 m5 d5) 24
                      obtain ⟨v1, v2, v3, v4⟩ := id BZ7
                      have hney : wy.heap.size ≠ w.heap.size + 1 := by omega
                      have hney2 : w.heap.size + 1 ≠ wy.heap.size := by omega
                      go_wp2_with fail
                      have lta5 := oa5.lt
                      have ltb5 := ob5.lt
                      have hbA := (Below.refl wy.heap.size wy).alloc (Nat.le_refl _) (.cells #[.slice a5 n5 c5, .slice b5 m5 d5] 24)
                      have oa6 := oa5.belowLt' hbA lta5
                      have ob6 := ob5.belowLt' hbA ltb5
                      have oa7 := ((oa6.setBelow (g := w.heap.size + 1) (i := 0) (by omega) (.slice a5 n5 c5)).setBelow (g := w.heap.size + 1) (i := 1) (by omega) (.slice b5 m5 d5)).mono (by omega : B ≤ V.heap.size)
                      have ob7 := ((ob6.setBelow (g := w.heap.size + 1) (i := 0) (by omega) (.slice a5 n5 c5)).setBelow (g := w.heap.size + 1) (i := 1) (by omega) (.slice b5 m5 d5)).mono (by omega : B ≤ V.heap.size)
                      have hbV7 := hb1.trans ((hbVy.alloc hsy (.cells #[.slice a5 n5 c5, .slice b5 m5 d5] 24)).mono (by omega : w.heap.size ≤ V.heap.size))
                      have hbf := (hbV7.setCell (p := ⟨w.heap.size + 1, 0, none⟩) (by simp) (.slice a5 n5 c5)).setCell (p := ⟨w.heap.size + 1, 1, none⟩) (by simp) (.slice b5 m5 d5)
                      refine bodyPost_ret (v := .tuple #[.agg #[.slice a5 n5 c5, .slice b5 m5 d5], .bool true]) (by simp [results, Try.results34, go_sem, *]) rfl ?_
                      unfold GoPost
                      rw [HR2.out]
                      exact ⟨_, _, _, _, _, _, rfl, oa7, ob7, ap5, hbf⟩
                    · have HN : Hid (∀ g, st = some (k, g) → f + 1 ≤ g) := hid (fun g e => by
                        have h1 := HF.out g e
                        by_cases e2 : g = f
                        · subst e2; exact absurd e he
                        · omega)
                      have G2 := hfn.2 he
                      rw [hcast] at G2
                      have HG2 := hid G2
                      clear G2 hfn he
                      go_wp2_with (go_at_call 34; refine (HIH.out ((u + 1) + 1) hpp _ _ _ _ HG2.out a3 b3' _ c3 d3 cl wc V.heap.size oa3 ob3 ap3 hlc hs3).mono ?_; rintro e wy ⟨a5, n5, c5, b5, m5, d5, rfl, oa5, ob5, ap5, hb5⟩; have hbVy := hb3.trans (hb5.mono hs3); have hsy := hbVy.size; have BZ := boxAt_new wy (.slice none 0 0) (.slice none 0 0) 24; obtain ⟨r1, r2, r3, r4⟩ := id BZ)
                      have hbf : Below V.heap.size V (wy.alloc (.cells #[.slice a5 n5 c5, .slice b5 m5 d5] 24)) := hbVy.alloc hsy _
                      go_roundw
                      case rel => exact ⟨f + 1, by omega, by omega, by go_num, HN, hbf⟩
                      case measure => simp [intOf]; omega
                · have hbe : ((cntF k os f : Int) != nth lab k) = true := by simp [hc]
                  have HN := hid (HNX.out (fun F => hc F.cnt))
                  go_wp2_with (go_at_call 57; refine (reCount_any _ _ _ _ (k : Int) f _ oa.has (by omega)).mono ?_; rintro e w' ⟨rfl, rfl⟩)
                  go_roundw
                  case rel => exact ⟨f + 1, by omega, by omega, by go_num, HN, hb⟩
                  case measure => simp [intOf]; omega
            · obtain rfl : f = (u + 1) + 1 := by omega
              have HN : Hid (∀ i f, st = some (i, f) → k + 1 ≤ i) := hid (fun i f e => by
                have h1 := HK.out i f e
                by_cases e2 : i = k
                · subst e2
                  have h2 := HF.out f e
                  have h3 := (S3.out i f e).2.le
                  have := hlo.out
                  omega
                · omega)
              go_wp2_with fail
              go_roundw
              case rel => exact ⟨k + 1, by omega, by go_num, HN, hb⟩
              case measure => simp [intOf]; omega
      · obtain rfl : k = n := by omega
        have HR : Hid (R = (([], []), false)) := hid (S2.out (by
          cases hst : st with
          | none => rfl
          | some x => have h1 := HK.out x.1 x.2 (by rw [hst]); have h2 := (S3.out x.1 x.2 (by rw [hst])).1; omega))
        go_wp2_with fail
        have e1 := (B2.set0 (z := .slice none 0 0)).set1 (z := .slice none 0 0)
        obtain ⟨t1, t2, t3, t4⟩ := id e1
        refine bodyPost_ret (v := .tuple #[.agg #[.slice none 0 0, .slice none 0 0], .bool false]) (by simp [results, Try.results34, go_sem, *]) rfl ?_
        unfold GoPost
        rw [HR.out]
        exact ⟨_, _, _, _, _, _, rfl, Own.nil _ _, Own.nil _ _, apart_none _, (hbw.setCell (by simp) _).setCell (by simp) _⟩
theorem goesOn_all {lab : List Int} {n : Nat} (hn : lab.length = n) (h8 : n ≤ 8) (hpk : isPark lab = true) : ∀ d, GoesOn lab n d
  | 0 => goesOn_zero hn
  | d + 1 => goesOn_step hn h8 hpk (goesOn_all hn h8 hpk d)
set_option maxRecDepth 100000 in
set_option maxHeartbeats 4000000 in
theorem specRegionOf_any (a : Option Addr) (n cap : Nat) (lab : List Int) (w : World) (h : Has w a n cap lab) : Calls Try.prog 9 #[.slice a n cap] w (PostRgn w (regionOf lab)) := by
  have BX := boxAt_new w (.slice none 0 0) (.slice none 0 0) 24
  have hb0 : Below w.heap.size w (w.alloc (.cells #[.slice none 0 0, .slice none 0 0] 24)) := (Below.refl _ _).alloc (Nat.le_refl _) _
  have h1 := h.below hb0 (Nat.le_refl _)
  have hsW : (w.alloc (.cells #[.slice none 0 0, .slice none 0 0] 24)).heap.size = w.heap.size + 1 := by simp
  obtain ⟨y1, y2, y3, y4⟩ := id BX
  by_cases hp : isPark lab = true
  · have HP := hid hp
    have hn := h.len
    have h8 : n ≤ 8 := by have := (isPark_iff.1 hp).1; omega
    have HG := hid (goesOn_all hn h8 hp n)
    have HS := hid (go_start hp)
    clear hp hn
    go_enter Try.func9, Try.ntmps9
    go_wp2_with (first | (go_at_call 33; refine (paParking_any _ _ _ _ _ h1).mono ?_; rintro e w1 ⟨rfl, hb1⟩; rw [HP.out]; have BX1 := BX.below hb1 (by rw [hsW]; exact Nat.lt_succ_self _); obtain ⟨z1, z2, z3, z4⟩ := id BX1; have h2 := h1.below hb1 (Nat.le_refl _); have hs1 := hb1.size) | (go_at_call 34; refine (HG.out 0 (Nat.zero_add n) [] [] 0 _ HS.out none none a 0 0 cap w1 (w.heap.size + 1) (Own.nil _ _) (Own.nil _ _) (apart_none _) h2 (by rw [← hsW]; exact hs1)).mono ?_; rintro e w2 ⟨a5, n5, c5, b5, m5, d5, rfl, oa5, ob5, ap5, hb5⟩; have BX2 := BX1.below hb5 (by omega); obtain ⟨x1, x2, x3, x4⟩ := id BX2))
    have e1 := (BX2.set0 (z := .slice a5 n5 c5)).set1 (z := .slice b5 m5 d5)
    obtain ⟨v1, v2, v3, v4⟩ := id e1
    have hbf := hb0.trans ((hb1.mono (by omega : w.heap.size ≤ _)).trans (hb5.mono (by omega : w.heap.size ≤ w1.heap.size)))
    refine bodyPost_ret (v := .tuple #[.agg #[.slice a5 n5 c5, .slice b5 m5 d5], .bool (regionOf lab).2]) (by simp [results, Try.results9, go_sem, *]) rfl ?_
    unfold PostRgn
    exact ⟨_, _, _, _, _, _, rfl, ((oa5.setBelow (by omega) _).setBelow (by omega) _).mono (by omega), ((ob5.setBelow (by omega) _).setBelow (by omega) _).mono (by omega), ap5, (hbf.setCell (p := ⟨w.heap.size, 0, none⟩) (Nat.le_refl _) _).setCell (p := ⟨w.heap.size, 1, none⟩) (Nat.le_refl _) _⟩
  · have HP := hid (Bool.eq_false_iff.2 hp)
    have HR : Hid (regionOf lab = (([], []), false)) := hid (by unfold regionOf; rw [if_neg hp])
    clear hp
    go_enter Try.func9, Try.ntmps9
    go_wp2_with (go_at_call 33; refine (paParking_any _ _ _ _ _ h1).mono ?_; rintro e w1 ⟨rfl, hb1⟩; rw [HP.out]; have BX1 := BX.below hb1 (by rw [hsW]; exact Nat.lt_succ_self _); obtain ⟨z1, z2, z3, z4⟩ := id BX1)
    have hbf := hb0.trans (hb1.mono (by omega : w.heap.size ≤ _))
    first
    | exact bodyPost_ret (v := .tuple #[.agg #[.slice none 0 0, .slice none 0 0], .bool false]) (by simp [results, Try.results9, go_sem, *]) rfl (postRgn_no HR.out hbf)
    | (have e1 := (BX1.set0 (z := .slice none 0 0)).set1 (z := .slice none 0 0)
       obtain ⟨v1, v2, v3, v4⟩ := id e1
       exact bodyPost_ret (v := .tuple #[.agg #[.slice none 0 0, .slice none 0 0], .bool false]) (by simp [results, Try.results9, go_sem, *]) rfl (postRgn_no HR.out ((hbf.setCell (p := ⟨w.heap.size, 0, none⟩) (Nat.le_refl _) _).setCell (p := ⟨w.heap.size, 1, none⟩) (Nat.le_refl _) _)))
end Go.Proofs.Ytnddplldkgphnab

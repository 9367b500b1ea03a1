/- The program's Region of a label, by contract. -/
import Derived.Test.YtnddplldkgphnabImplA
import Derived.Test.YtnddplldkgphnabImplN
import Derived.Test.YtnddplldkgphnabCont
import Derived.Test.YtnddplldkgphnabApp2
import Derived.Test.YtnddplldkgphnabRgn
import Derived.Test.YtnddplldkgphnabMathRg
namespace Go.Proofs.Ytnddplldkgphnab
open Go.RowKit

theorem cnt_next {os : List Int} {i : Int} {f k : Nat} (h : k < os.length) : cntF i (os.take (k + 1)) f = cntF i (os.take k) f + (if i < nth os k ∨ k < f then 1 else 0) := by
  rw [take_succ_nth h, cntF_snoc, List.length_take, Nat.min_eq_left (by omega)]

set_option maxHeartbeats 400000 in
theorem countedBefore_any (a : Option Addr) (n cap : Nat) (os : List Int) (i : Int) (f : Nat) (w : World) (h : Has w a n cap os) (h8 : n ≤ 8) :
    Calls Try.prog 82 #[.slice a n cap, .int .i64 i, .int .i64 (f : Int)] w fun e w' => e = .returned (.int .i64 (cntF i os f : Int)) ∧ w = w' := by
  have HL := hid h.len
  have HC := hid (fun k => cntF_le i (os.take k) f)
  go_enter Try.func82, Try.ntmps82
  go_wp2_with fail
  go_loop [7, 12] (fun c x => ∃ (k v : Nat), k ≤ n ∧ x = .int .i64 (k : Int) ∧ c = .int .i64 (v : Int) ∧ Hid (v = cntF i (os.take k) f)) (fun _ x => n - (intOf x).toNat)
  case atStart => exact ⟨0, 0, by omega, rfl, rfl, hid rfl⟩
  case round =>
    obtain ⟨k, v, hk, rfl, rfl, HV⟩ := hrel
    by_cases hlt : k < n
    · obtain ⟨b0, off, rfl, hbb, hc⟩ := h.2.2.2.2 (by omega)
      have hck := hc k hlt
      have HS := hid (cnt_next (os := os) (i := i) (f := f) (k := k) (by rw [HL.out]; exact hlt))
      have hv8 : v ≤ 8 := by have := HC.out k; rw [← HV.out, List.length_take] at this; omega
      clear hc
      by_cases h1 : i < nth os k
      · have HN : Hid (v + 1 = cntF i (os.take (k + 1)) f) := hid (by rw [HS.out, if_pos (.inl h1), HV.out])
        go_wp2_with fail
        go_round
        case rel => exact ⟨k + 1, v + 1, by omega, by go_num, by go_num, HN⟩
        case measure => simp [intOf]; omega
      · by_cases h2 : k < f
        · have HN : Hid (v + 1 = cntF i (os.take (k + 1)) f) := hid (by rw [HS.out, if_pos (.inr h2), HV.out])
          go_wp2_with fail
          go_round
          case rel => exact ⟨k + 1, v + 1, by omega, by go_num, by go_num, HN⟩
          case measure => simp [intOf]; omega
        · have HN : Hid (v = cntF i (os.take (k + 1)) f) := hid (by rw [HS.out, if_neg (by omega), HV.out]; rfl)
          go_wp2_with fail
          go_round
          case rel => exact ⟨k + 1, v, by omega, by go_num, rfl, HN⟩
          case measure => simp [intOf]; omega
    · obtain rfl : k = n := by omega
      have HR : Hid ((v : Int) = (cntF i os f : Int)) := hid (by rw [HV.out, List.take_of_length_le (by rw [HL.out]; omega)])
      go_wp2_with fail
      go_ret
      exact ⟨ret_int HR.out, rfl⟩

/-- What farBehind comes to. -/
def farI (os : List Int) (i c : Int) (l n : Nat) : Int := if farN i os c (os.length + 1 - l) l ≤ n then (farN i os c (os.length + 1 - l) l : Int) else 0
def farB (os : List Int) (i c : Int) (l n : Nat) : Bool := decide (farN i os c (os.length + 1 - l) l ≤ n)
theorem ret_far {x y : Int} {b c : Bool} (h : y = x ∧ c = b) : Ending.returned (.tuple #[.int .i64 x, .bool b]) = .returned (.tuple #[.int .i64 y, .bool c]) := by rw [h.1, h.2]
theorem far_found {os : List Int} {i c : Int} {l n f : Nat} (hl : os.length = n) (h1 : l ≤ f) (h2 : f ≤ n) (h3 : ∀ g, l ≤ g → g < f → (cntF i os g : Int) ≠ c) (h4 : (cntF i os f : Int) = c) : farI os i c l n = (f : Int) ∧ farB os i c l n = true := by
  have e := far_of (k := os.length + 1 - l) h1 (by omega) h3 h4
  unfold farI farB
  rw [e, if_pos h2, decide_eq_true h2]
  exact ⟨rfl, rfl⟩
theorem far_lost {os : List Int} {i c : Int} {l n : Nat} (hl : os.length = n) (hln : l ≤ n) (h : ∀ g, l ≤ g → g < n + 1 → (cntF i os g : Int) ≠ c) : farI os i c l n = 0 ∧ farB os i c l n = false := by
  have e := far_none (i := i) (o := os) (c := c) (k := os.length + 1 - l) (l := l) (fun g a b => h g a (by omega))
  unfold farI farB
  rw [e, if_neg (by omega), decide_eq_false (by omega)]
  exact ⟨rfl, rfl⟩

set_option maxHeartbeats 400000 in
theorem farBehind_any (a : Option Addr) (n cap : Nat) (os : List Int) (i c : Int) (l : Nat) (w : World) (h : Has w a n cap os) (h8 : n ≤ 8) (hl : l ≤ n) :
    Calls Try.prog 63 #[.slice a n cap, .int .i64 i, .int .i64 c, .int .i64 (l : Int)] w fun e w' => e = .returned (.tuple #[.int .i64 (farI os i c l n), .bool (farB os i c l n)]) ∧ w = w' := by
  have HL := hid h.len
  go_enter Try.func63, Try.ntmps63
  go_wp2_with fail
  go_loop [10] (fun x => ∃ f : Nat, l ≤ f ∧ f ≤ n + 1 ∧ x = .int .i64 (f : Int) ∧ Hid (∀ g, l ≤ g → g < f → (cntF i os g : Int) ≠ c)) (fun x => n + 1 - (intOf x).toNat)
  case atStart => exact ⟨l, by omega, by omega, rfl, hid (fun g _ _ => by omega)⟩
  case round =>
    obtain ⟨f, h1, h2, rfl, HG⟩ := hrel
    by_cases hlt : f ≤ n
    · by_cases he : (cntF i os f : Int) = c
      · have HR := hid (far_found HL.out h1 hlt HG.out he)
        have hbe : ((cntF i os f : Int) == c) = true := by simp [he]
        have HE := hid he
        clear he
        go_wp2_with (go_at_call 82; refine (countedBefore_any _ _ _ _ i f _ h h8).mono ?_; rintro e w' ⟨rfl, rfl⟩)
        go_ret2
        exact ⟨ret_far HR.out, rfl⟩
      · have hbe : ((cntF i os f : Int) == c) = false := by simp [he]
        have HN : Hid (∀ g, l ≤ g → g < f + 1 → (cntF i os g : Int) ≠ c) := hid (fun g a b => by
          by_cases e : g = f
          · subst e; exact he
          · exact HG.out g a (by omega))
        have HE := hid he
        clear he
        go_wp2_with (go_at_call 82; refine (countedBefore_any _ _ _ _ i f _ h h8).mono ?_; rintro e w' ⟨rfl, rfl⟩)
        go_round
        case rel => exact ⟨f + 1, by omega, by omega, by go_num, HN⟩
        case measure => simp [intOf]; omega
    · obtain rfl : f = n + 1 := by omega
      have HR := hid (far_lost HL.out hl HG.out)
      go_wp2_with fail
      go_ret2
      exact ⟨ret_far HR.out, rfl⟩

theorem nxt_take {lab o : List Int} {l k n : Nat} (hl : o.length = n) :
    nxtF lab o l (k + 1) = if hasB o k then nxtF lab o l k else if farB o k (nth lab k) l n = true ∧ farI o k (nth lab k) l n < ((nxtF lab o l k).2 : Int) then (k, (farI o k (nth lab k) l n).toNat) else nxtF lab o l k := by
  have hle := nxt_le lab o l k
  have hf := (far_spec k o (nth lab k) (o.length + 1 - l) l).2.1
  rw [nxtF]
  by_cases hh : hasB o k = true
  · rw [if_pos hh, if_pos hh]
  · rw [if_neg hh, if_neg hh]
    unfold farB farI
    by_cases e : farN k o (nth lab k) (o.length + 1 - l) l ≤ n
    · simp only [if_pos e, decide_eq_true e, true_and]
      by_cases e2 : farN k o (nth lab k) (o.length + 1 - l) l < (nxtF lab o l k).2
      · rw [if_pos e2, if_pos (by omega), Int.toNat_natCast]
      · rw [if_neg e2, if_neg (by omega)]
    · rw [if_neg (by omega), if_neg (by simp [e])]

/-- A Region's two lists, of the call's own, apart. -/
def PostAgg2 (w : World) (n : Nat) (xs ys : List Int) (e : Ending) (w' : World) : Prop := ∃ a c b d, e = .returned (.agg #[.slice a n c, .slice b n d]) ∧ Own w' w.heap.size a n c xs ∧ Own w' w.heap.size b n d ys ∧ Apart a b ∧ Below w.heap.size w w'

set_option maxRecDepth 100000 in
set_option maxHeartbeats 2000000 in
theorem regionOfLabel_any (a : Option Addr) (n cap : Nat) (lab : List Int) (w : World) (h : Has w a n cap lab) (h8 : n ≤ 8) :
    Calls Try.prog 36 #[.slice a n cap] w (PostAgg2 w n (regF lab n).1 (regF lab n).2.1) := by
  have HL := hid h.len
  have BX := boxAt_new w (.slice none 0 0) (.slice none 0 0) 24
  have hb0 : Below w.heap.size w (w.alloc (.cells #[.slice none 0 0, .slice none 0 0] 24)) := (Below.refl _ _).alloc (Nat.le_refl _) _
  have hsz : (w.alloc (.cells #[.slice none 0 0, .slice none 0 0] 24)).heap.size = w.heap.size + 1 := by simp
  have h1 := h.below hb0 (Nat.le_refl _)
  go_enter Try.func36, Try.ntmps36
  go_wp2_with (first | (at_make; refine wpList_make_room _ rfl _ _ rfl n rfl rfl (by omega) ?_; intro a2 c2 w2 own2 hb2; have own1' := own1.below hb2 (Nat.le_refl _); have ap2 := apart_of own1.lt own2.ge) | (at_make; refine wpList_make_room _ rfl _ _ rfl n rfl rfl (by omega) ?_; intro a1 c1 w1 own1 hb1))
  have own2' := own2.mono (B' := w.heap.size + 1) (by have := hb1.size; omega)
  have own1'' := own1'.mono (B' := w.heap.size + 1) (by omega)
  have hb02 := hb0.trans ((hb1.trans (hb2.mono hb1.size)).mono (by omega))
  have hle2 : w.heap.size + 1 ≤ w2.heap.size := by have := hb1.size; have := hb2.size; omega
  have BX2 := BX.below (hb1.trans (hb2.mono hb1.size)) (by omega)
  have hRL := hid (length_regF lab)
  clear own1 own1' own2 hb1 hb2 hb0 BX hsz h1
  go_loopw [3, 4, 5, 21] (fun oo ff ll ii wr => ∃ (p : Nat) (a1 a2 : Option Addr) (c1 c2 : Nat), p ≤ n ∧ ii = .int .i64 (p : Int) ∧ ll = .int .i64 ((regF lab p).2.2 : Int) ∧ oo = .slice a1 p c1 ∧ ff = .slice a2 p c2 ∧ Own wr (w.heap.size + 1) a1 p c1 (regF lab p).1 ∧ Own wr (w.heap.size + 1) a2 p c2 (regF lab p).2.1 ∧ Apart a1 a2 ∧ BoxAt wr w.heap.size (.slice none 0 0) (.slice none 0 0) ∧ Below w.heap.size w wr ∧ w.heap.size + 1 ≤ wr.heap.size ∧ (regF lab p).2.2 ≤ p) (fun _ _ _ ii _ => n - (intOf ii).toNat)
  case atStart => exact ⟨0, a1, a2, c1, c2, by omega, rfl, rfl, rfl, rfl, own1'', own2', ap2, BX2, hb02, hle2, Nat.le_refl _⟩
  case round =>
    clear own1'' own2' ap2 BX2 hb02 hle2
    obtain ⟨p, b1, b2, d1, d2, hp, rfl, rfl, rfl, rfl, o1, o2, ap, BX, hb, hsz, hlp⟩ := hrel
    obtain ⟨O, hO⟩ : ∃ O, (regF lab p).1 = O := ⟨_, rfl⟩
    obtain ⟨l, hl⟩ : ∃ l, (regF lab p).2.2 = l := ⟨_, rfl⟩
    by_cases hlt : p < n
    · have HN1 : Hid ((regF lab (p + 1)).1 = (regF lab p).1 ++ [((nxtF lab O l n).1 : Int)]) := hid (by rw [← hO, ← hl, ← HL.out]; rfl)
      have HN2 : Hid ((regF lab (p + 1)).2.1 = (regF lab p).2.1 ++ [((nxtF lab O l n).2 : Int)]) := hid (by rw [← hO, ← hl, ← HL.out]; rfl)
      have HN3 : Hid ((regF lab (p + 1)).2.2 = (nxtF lab O l n).2) := hid (by rw [← hO, ← hl, ← HL.out]; rfl)
      have HNL := hid (nxt_le lab O l n)
      have hOl : O.length = p := by rw [← hO]; exact (hRL.out p).1
      have HOL := hid hOl
      rw [hl] at hlp
      rw [hO] at o1
      rw [hl]
      have HO := hid hO
      have HLL := hid hl
      have hw := h.below hb (Nat.le_refl _)
      have hp8 : p ≤ 8 := by omega
      have ho1 := o1.has
      have HX := hid (fun k => nxt_le lab O l k)
      clear hO hl hOl
      go_wp2_with fail
      go_loop [7, 8, 28] (fun nn nf ii => ∃ k : Nat, k ≤ n ∧ ii = .int .i64 (k : Int) ∧ nn = .int .i64 ((nxtF lab O l k).1 : Int) ∧ nf = .int .i64 ((nxtF lab O l k).2 : Int)) (fun _ _ ii => n - (intOf ii).toNat)
      case atStart => exact ⟨0, by omega, rfl, rfl, by simp [nxtF, HOL.out]⟩
      case round =>
        obtain ⟨k, hk, rfl, rfl, rfl⟩ := hrel
        by_cases hkn : k < n
        · obtain ⟨b0, off, rfl, hbb, hc⟩ := hw.2.2.2.2 (by omega)
          have hck := hc k hkn
          have HT := hid (nxt_take (lab := lab) (o := O) (l := l) (k := k) HOL.out)
          clear hc
          by_cases hh : hasB O k = true
          · have HN : Hid (nxtF lab O l (k + 1) = nxtF lab O l k) := hid (by rw [HT.out, if_pos hh])
            have HH := hid hh
            clear hh
            go_wp2_with (go_at_call 62; refine (contains5_any _ _ _ _ _ _ ho1).mono ?_; rintro e w' ⟨rfl, rfl⟩; rw [HH.out])
            go_round
            case rel => exact ⟨k + 1, by omega, by go_num, by rw [HN.out], by rw [HN.out]⟩
            case measure => simp [intOf]; omega
          · have HT2 : Hid (nxtF lab O l (k + 1) = if farB O k (nth lab k) l p = true ∧ farI O k (nth lab k) l p < ((nxtF lab O l k).2 : Int) then (k, (farI O k (nth lab k) l p).toNat) else nxtF lab O l k) := hid (by rw [HT.out, if_neg hh])
            have HH := hid (Bool.eq_false_iff.2 hh)
            clear hh HT
            by_cases hF : farB O k (nth lab k) l p = true
            · have HF := hid hF
              by_cases hlt2 : farI O k (nth lab k) l p < ((nxtF lab O l k).2 : Int)
              · have hpos : Hid (farI O k (nth lab k) l p = ((farI O k (nth lab k) l p).toNat : Int)) := hid (by
                  have : 0 ≤ farI O k (nth lab k) l p := by unfold farI; split <;> omega
                  omega)
                have HN : Hid (nxtF lab O l (k + 1) = (k, (farI O k (nth lab k) l p).toNat)) := hid (by rw [HT2.out, if_pos ⟨hF, hlt2⟩])
                clear hF
                go_wp2_with (first | (go_at_call 62; refine (contains5_any _ _ _ _ _ _ ho1).mono ?_; rintro e w' ⟨rfl, rfl⟩; rw [HH.out]) | (go_at_call 63; refine (farBehind_any _ _ _ _ (k : Int) (nth lab k) l _ ho1 hp8 hlp).mono ?_; rintro e w' ⟨rfl, rfl⟩; rw [HF.out]))
                go_round
                case rel => exact ⟨k + 1, by omega, by go_num, by rw [HN.out], by rw [HN.out]; exact congrArg (Value.int .i64) hpos.out⟩
                case measure => simp [intOf]; omega
              · have HN : Hid (nxtF lab O l (k + 1) = nxtF lab O l k) := hid (by rw [HT2.out, if_neg (fun e => hlt2 e.2)])
                clear hF
                go_wp2_with (first | (go_at_call 62; refine (contains5_any _ _ _ _ _ _ ho1).mono ?_; rintro e w' ⟨rfl, rfl⟩; rw [HH.out]) | (go_at_call 63; refine (farBehind_any _ _ _ _ (k : Int) (nth lab k) l _ ho1 hp8 hlp).mono ?_; rintro e w' ⟨rfl, rfl⟩; rw [HF.out]))
                go_round
                case rel => exact ⟨k + 1, by omega, by go_num, by rw [HN.out], by rw [HN.out]⟩
                case measure => simp [intOf]; omega
            · have HF := hid (Bool.eq_false_iff.2 hF)
              have HN : Hid (nxtF lab O l (k + 1) = nxtF lab O l k) := hid (by rw [HT2.out, if_neg (fun e => hF e.1)])
              clear hF
              go_wp2_with (first | (go_at_call 62; refine (contains5_any _ _ _ _ _ _ ho1).mono ?_; rintro e w' ⟨rfl, rfl⟩; rw [HH.out]) | (go_at_call 63; refine (farBehind_any _ _ _ _ (k : Int) (nth lab k) l _ ho1 hp8 hlp).mono ?_; rintro e w' ⟨rfl, rfl⟩; rw [HF.out]))
              go_round
              case rel => exact ⟨k + 1, by omega, by go_num, by rw [HN.out], by rw [HN.out]⟩
              case measure => simp [intOf]; omega
        · obtain rfl : k = n := by omega
          obtain ⟨x1, x2, x3, x4⟩ := id BX
          go_wp2_with (first | (at_builtin; refine wpList_append_two _ rfl _ _ rfl (w.heap.size + 1) _ _ _ _ _ rfl rfl o2' (by omega) hsz3 _ _ _ _ _ o1' ap'.symm ?_; intro a4 cap4 w4 o2'' o1'' ap'' hb4) | (at_builtin; refine wpList_append_two _ rfl _ _ rfl (w.heap.size + 1) _ _ _ _ _ rfl rfl o1 (by omega) hsz _ _ _ _ _ o2 ap ?_; intro a3 cap3 w3 o1' o2' ap' hb3; have hsz3 := Nat.le_trans hsz hb3.size))
          have hb34 := hb3.trans hb4
          have BX3 := BX.below hb34 (Nat.lt_succ_self _)
          have hz34 := hb34.size
          go_roundw
          case rel => exact ⟨p + 1, a3, a4, cap3, cap4, by omega, by go_num, by rw [HN3.out], rfl, rfl, by rw [HN1.out, HO.out]; exact o1'', by rw [HN2.out]; exact o2'', ap''.symm, BX3, hb.trans (hb34.mono (by omega)), by omega, by rw [HN3.out]; have := HNL.out; rw [HOL.out] at this; exact this⟩
          case measure => simp [intOf]; omega
    · obtain rfl : p = n := by omega
      obtain ⟨x1, x2, x3, x4⟩ := id BX
      go_wp2_with fail
      have e1 := (BX.set0 (z := .slice b1 p d1)).set1 (z := .slice b2 p d2)
      obtain ⟨y1, y2, y3, y4⟩ := id e1
      refine bodyPost_ret (v := .agg #[.slice b1 p d1, .slice b2 p d2]) (by simp [results, Try.results36, go_sem, *]) rfl ⟨_, _, _, _, rfl, ((o1.setBelow (Nat.lt_succ_self _) _).setBelow (Nat.lt_succ_self _) _).mono (by omega), ((o2.setBelow (Nat.lt_succ_self _) _).setBelow (Nat.lt_succ_self _) _).mono (by omega), ap, (hb.setCell (by simp) _).setCell (by simp) _⟩
end Go.Proofs.Ytnddplldkgphnab

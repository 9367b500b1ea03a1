/- The law of heights seen from the other end, walked. -/
import Derived.Test.YtakadjhbomggbaaCur
import Derived.Test.YtakadjhbomggbaaSpecS
import Derived.Test.YtakadjhbomggbaaMathT
import Derived.Test.YtakadjhbomggbaaMathH
import Derived.Test.YtakadjhbomggbaaMathS
import Derived.Sort.LotA
import Derived.Test.YtakadjhbomggbaaDraw2
import Derived.Test.YtakadjhbomggbaaMathHu
import Derived.Test.YtakadjhbomggbaaHelp
import Derived.Test.YtakadjhbomggbaaSpecA
import Derived.Test.YtakadjhbomggbaaWlk
import Derived.Test.YtakadjhbomggbaaWkQ
import Derived.Test.YtakadjhbomggbaaSpecTw
import Derived.Test.YtakadjhbomggbaaSpecO
import Derived.Test.YtakadjhbomggbaaRows2
import Derived.Test.YtakadjhbomggbaaSrt
import Derived.Test.YtakadjhbomggbaaImplWk
import Derived.Test.YtakadjhbomggbaaSpecC
import Derived.Test.YtakadjhbomggbaaWkT
namespace Go.Proofs.Ytakadjhbomggbaa
open Go.RowKit

theorem HasB.below {w w' : World} {a : Option Addr} {n K : Nat} (h : HasB w a n K) (hb : Below K w w') : HasB w' a n K := by
  refine ⟨h.1, fun hx => ?_⟩
  obtain ⟨b, off, ha, hbk, hc⟩ := h.2 hx
  refine ⟨b, off, ha, hbk, fun i hi => ?_⟩
  obtain ⟨u, u0, u1, hu⟩ := hc i hi
  exact ⟨u, u0, u1, by rw [hb.cell (p := ⟨b, off + i, none⟩) hbk]; exact hu⟩

/-- An argument's slice of bytes. -/
theorem hasB_of_row {w : World} {a : Option Addr} {len cap : Nat} {zs : List Int}
    (h : (a = none ∧ len = 0 ∧ cap = 0 ∧ zs = []) ∨ ∃ x, a = some x ∧ len ≤ cap ∧ cap ≤ maxLen ∧ zs.length = cap ∧ (∀ i, i < zs.length → w.cell? (x.add i) = some (.int .u8 (zs.getD i 0))) ∧ ∀ n ∈ zs, (Lit.int .u8 n).wf = true) :
    len ≤ maxLen ∧ (len ≤ 1048576 → HasB w a len w.heap.size) := by
  rcases h with ⟨rfl, rfl, rfl, rfl⟩ | ⟨x, rfl, h1, h2, h3, h4, h5⟩
  · exact ⟨by unfold maxLen; omega, fun _ => ⟨by omega, by omega⟩⟩
  · refine ⟨by omega, fun hl => ⟨by omega, fun hx => ?_⟩⟩
    obtain ⟨b, off, spot⟩ := x
    have hc := h4 0 (by omega)
    have hspot : spot = none := by simpa [Addr.add] using World.cell?_spot hc
    subst hspot
    refine ⟨b, off, rfl, by have := World.block_lt_of_cell? w _ hc; simpa [Addr.add] using this, fun i hi => ?_⟩
    have := h4 i (by omega)
    have e : (⟨b, off, none⟩ : Addr).add i = ⟨b, off + i, none⟩ := by unfold Addr.add; split <;> simp_all
    rw [e] at this
    have hm : zs.getD i 0 ∈ zs := by simp [show i < zs.length by omega]
    have hw := h5 _ hm
    generalize zs.getD i 0 = u at *
    have hw' : (0 : Int) ≤ u ∧ u ≤ 255 := by simpa [Lit.wf, IntKind.min, IntKind.max, IntKind.signed, IntKind.bits] using hw
    exact ⟨u, hw'.1, hw'.2, this⟩

/-- The law's answer. -/
def Holds (w : World) (e : Ending) (w' : World) : Prop := e = .returned (.bool true) ∧ Below w.heap.size w w'
end Go.Proofs.Ytakadjhbomggbaa

namespace Go.Proofs.Ytakadjhbomggbaa
open Go.RowKit

/-- Whether the bytes are too many. -/
def Big (n m : Nat) (w : World) (e : Ending) (w' : World) : Prop := ∃ r : Bool, e = .returned (.bool r) ∧ (r = false → n + m ≤ 1048576) ∧ w = w'

theorem big_any (a b : Option Addr) (n m cap cap' : Nat) (w : World) (hn : n ≤ 9223372036854775807) :
    Calls Try.prog 8 #[.slice a n cap, .slice b m cap'] w (Big n m w) := by
  by_cases h1 : (1048576 : Int) < (n : Int)
  · go_enter Try.func8, Try.ntmps8
    go_wp2_with fail
    go_ret
    exact ⟨true, ret_bool (by simp), by simp, rfl⟩
  · by_cases h2 : (1048576 : Int) - n < (m : Int)
    · go_enter Try.func8, Try.ntmps8
      go_wp2_with fail
      go_ret
      exact ⟨true, ret_bool (by simp), by simp, rfl⟩
    · go_enter Try.func8, Try.ntmps8
      go_wp2_with fail
      go_ret
      exact ⟨false, ret_bool (by simp), fun _ => by omega, rfl⟩

set_option maxHeartbeats 400000 in
theorem jSum_any (a : Option Addr) (n cap : Nat) (ys : List Int) (w : World) (h : Has w a n cap ys) (hs : Small ys) :
    Calls Try.prog 50 #[.slice a n cap] w fun e w' => e = .returned (.int .i64 (total ys)) ∧ w = w' := by
  obtain ⟨h0, h1, h2, h3, h4⟩ := h
  go_enter Try.func50, Try.ntmps50
  go_wp2_with fail
  go_loop [3, 8] (fun c i => ∃ k : Nat, k ≤ n ∧ i = .int .i64 k ∧ c = .int .i64 (total (ys.take k))) (fun _ i => n - (intOf i).toNat)
  case atStart => exact ⟨0, Nat.zero_le _, rfl, rfl⟩
  case round =>
    obtain ⟨k, hk, rfl, rfl⟩ := hrel
    by_cases hlt : k < n
    · obtain ⟨b, off, rfl, hb, hc⟩ := h4 (by omega)
      have hck := hc k hlt
      have ht := total_bounds hs k (by omega)
      obtain ⟨hv0, hv1⟩ := hs k (by omega)
      have HS := hid (total_succ (xs := ys) (k := k) (by omega))
      clear hc h4 hs
      go_wp2_with fail
      go_round
      case rel => exact ⟨k + 1, by omega, by go_num, by rw [HS.out]⟩
      case measure => simp [intOf]; omega
    · obtain rfl : k = n := by omega
      go_wp2_with fail
      go_ret
      exact ⟨ret_int (by rw [List.take_of_length_le (by omega)]), rfl⟩

end Go.Proofs.Ytakadjhbomggbaa

namespace Go.Proofs.Ytakadjhbomggbaa
open Go.RowKit Go.Sort

/-- The cars with favourites below x, by their favourites. -/
def carsTo (xs : List Int) : Nat → List Int
  | 0 => []
  | x + 1 => carsTo xs x ++ idxs (fun c => decide (nth xs c = (x : Int))) xs.length
def carsL (xs : List Int) : List Int := carsTo xs xs.length
theorem mem_idxsZ {f : Nat → Bool} {n : Nat} {v : Int} : v ∈ idxs f n ↔ ∃ c : Nat, c < n ∧ f c = true ∧ v = (c : Int) := by
  unfold idxs
  simp only [List.mem_map, List.mem_filter, List.mem_range]
  constructor
  · rintro ⟨c, ⟨h1, h2⟩, h3⟩; exact ⟨c, h1, h2, h3.symm⟩
  · rintro ⟨c, h1, h2, h3⟩; exact ⟨c, ⟨h1, h2⟩, h3.symm⟩
theorem mem_carsTo {xs : List Int} (h0 : ∀ c, c < xs.length → 0 ≤ nth xs c) : ∀ {x : Nat} {v : Int}, v ∈ carsTo xs x ↔ ∃ c : Nat, c < xs.length ∧ nth xs c < (x : Int) ∧ v = (c : Int)
  | 0, v => by
    simp only [carsTo, List.not_mem_nil, false_iff]
    rintro ⟨c, h1, h2, _⟩
    have := h0 c h1
    omega
  | x + 1, v => by
    simp only [carsTo, List.mem_append, mem_carsTo h0, mem_idxsZ, decide_eq_true_eq]
    constructor
    · rintro (⟨c, h1, h2, h3⟩ | ⟨c, h1, h2, h3⟩)
      · exact ⟨c, h1, by omega, h3⟩
      · exact ⟨c, h1, by omega, h3⟩
    · rintro ⟨c, h1, h2, h3⟩
      by_cases e : nth xs c = (x : Int)
      · exact .inr ⟨c, h1, e, h3⟩
      · exact .inl ⟨c, h1, by omega, h3⟩
/-- A car's place in the order. -/
def keyC (xs : List Int) (v : Int) : Int := nth xs v.toNat * 100 + v
theorem carsTo_sorted {xs : List Int} (h8 : xs.length ≤ 50) (h0 : ∀ c, c < xs.length → 0 ≤ nth xs c) : ∀ x : Nat, (carsTo xs x).Pairwise fun v w => keyC xs v < keyC xs w
  | 0 => List.Pairwise.nil
  | x + 1 => by
    simp only [carsTo]
    rw [List.pairwise_append]
    refine ⟨carsTo_sorted h8 h0 x, ?_, fun v hv w hw => ?_⟩
    · unfold idxs
      rw [List.pairwise_map]
      have hp : ((List.range xs.length).filter fun c => decide (nth xs c = (x : Int))).Pairwise (· < ·) := List.Pairwise.filter _ (List.pairwise_lt_range)
      refine hp.imp_of_mem fun {a b} ha hb hab => ?_
      simp only [List.mem_filter, decide_eq_true_eq] at ha hb
      simp only [keyC, Int.toNat_natCast]
      omega
    · obtain ⟨c, h1, h2, rfl⟩ := (mem_carsTo h0).1 hv
      obtain ⟨d, h3, h4, rfl⟩ := mem_idxsZ.1 hw
      simp only [decide_eq_true_eq] at h4
      simp only [keyC, Int.toNat_natCast]
      omega

/-! ### An insertion sort asks only of the number that it inserts -/
theorem insInner_congr {α : Type} [Inhabited α] {lt lt' : α → α → Bool} (a : Nat) : ∀ (j : Nat) (d : Array α), j < d.size → (∀ k, k < j → lt d[j]! d[k]! = lt' d[j]! d[k]!) → insInner lt a j d = insInner lt' a j d
  | 0, d, _, _ => rfl
  | j + 1, d, hj, h => by
    unfold insInner
    rw [h j (by omega)]
    split
    · refine insInner_congr a j _ (by rw [size_swp]; omega) fun k hk => ?_
      rw [swp_right d (j + 1) j (by omega), swp_other d (j + 1) j k (by omega) (by omega)]
      exact h k (by omega)
    · rfl
theorem insInner_get {α : Type} [Inhabited α] {lt : α → α → Bool} (a : Nat) : ∀ (j : Nat) (d : Array α), j < d.size → (insInner lt a j d).size = d.size ∧ (∀ k, j < k → (insInner lt a j d)[k]! = d[k]!) ∧ ∀ k, k ≤ j → ∃ k', k' ≤ j ∧ (insInner lt a j d)[k]! = d[k']!
  | 0, d, _ => ⟨rfl, fun _ _ => rfl, fun k hk => ⟨k, hk, rfl⟩⟩
  | j + 1, d, hj => by
    unfold insInner
    split
    · obtain ⟨h1, h2, h3⟩ := insInner_get (lt := lt) a j (swp d (j + 1) j) (by rw [size_swp]; omega)
      refine ⟨by rw [h1, size_swp], fun k hk => by rw [h2 k (by omega), swp_other d (j + 1) j k (by omega) (by omega)], fun k hk => ?_⟩
      by_cases e : k = j + 1
      · subst e
        rw [h2 (j + 1) (by omega), swp_left d (j + 1) j hj (by omega)]
        exact ⟨j, by omega, rfl⟩
      · obtain ⟨k', hk', e'⟩ := h3 k (by omega)
        rw [e']
        by_cases e2 : k' = j
        · subst e2
          rw [swp_right d (k' + 1) k' (by omega)]
          exact ⟨k' + 1, by omega, rfl⟩
        · rw [swp_other d (j + 1) j k' (by omega) e2]
          exact ⟨k', by omega, rfl⟩
    · exact ⟨rfl, fun _ _ => rfl, fun k hk => ⟨k, hk, rfl⟩⟩
/-- Two orders that agree where the later number is asked for first. -/
theorem insOuter_congr {m : Nat} {lt lt' : Fin (m + 1) → Fin (m + 1) → Bool} (h : ∀ x y : Fin (m + 1), y.val < x.val → lt x y = lt' x y) (b : Nat) : ∀ (f i : Nat) (d : Array (Fin (m + 1))), b - i = f → b ≤ d.size → d.size ≤ m + 1 →
    (∀ k, k < i → k < d.size → (d[k]!).val < i) → (∀ k, i ≤ k → k < d.size → (d[k]!).val = k) → insOuter lt 0 b i d = insOuter lt' 0 b i d
  | 0, i, d, hf, hb, hm, h1, h2 => by
    unfold insOuter
    rw [if_neg (by omega), if_neg (by omega)]
  | f + 1, i, d, hf, hb, hm, h1, h2 => by
    unfold insOuter
    rw [if_pos (by omega), if_pos (by omega)]
    have e : insInner lt 0 i d = insInner lt' 0 i d := insInner_congr 0 i d (by omega) fun k hk => h _ _ (by rw [h2 i (Nat.le_refl _) (by omega)]; exact h1 k hk (by omega))
    rw [e]
    obtain ⟨g1, g2, g3⟩ := insInner_get (lt := lt') 0 i d (by omega)
    refine insOuter_congr h b f (i + 1) _ (by omega) (by rw [g1]; exact hb) (by rw [g1]; exact hm) (fun k hk hs => ?_) (fun k hk hs => ?_)
    · obtain ⟨k', hk', e'⟩ := g3 k (by omega)
      rw [e']
      by_cases e2 : k' = i
      · subst e2
        rw [h2 k' (Nat.le_refl _) (by omega)]
        omega
      · have := h1 k' (by omega) (by omega)
        omega
    · rw [g2 k (by omega)]
      exact h2 k (by omega) (by rw [g1] at hs; exact hs)

/-- A permutation, in order: what a sort leaves. -/
theorem sorted_cars_list {α : Type} [Inhabited α] {lt : α → α → Bool} {ds : List α} {d' : Array α} {n : Nat} (hn : ds.length = n) (hp : PermIn 0 n ds.toArray d') (hs : SortedIn lt 0 n d') : d'.toList.Perm ds ∧ d'.toList.Pairwise (fun x y => lt y x = false) := by
  subst hn
  obtain ⟨h1, _, h3⟩ := hp
  have hsz : d'.size = ds.length := by simpa using h1
  constructor
  · have e1 : d'.extract 0 ds.length = d' := by rw [← hsz]; simp
    have e2 : ds.toArray.extract 0 ds.length = ds.toArray := by simp
    rw [e1, e2] at h3
    simpa using h3
  · rw [List.pairwise_iff_getElem]
    intro i j hi hj hij
    have := hs i j (Nat.zero_le _) hij (by simpa [hsz] using hj)
    have hi' : i < d'.size := by simpa using hi
    have hj' : j < d'.size := by simpa using hj
    rw [getElem!_pos d' j hj', getElem!_pos d' i hi'] at this
    simpa using this

def allFin (m : Nat) : List (Fin (m + 1)) := List.finRange (m + 1)
theorem allFin_get {m k : Nat} (hk : k < m + 1) : ((allFin m).toArray[k]!).val = k := by
  rw [getElem!_pos _ k (by simp [allFin]; exact hk)]
  simp [allFin]
/-- The cars in order, sorted by favourites, are those that are listed. -/
theorem sort_cars {m : Nat} {xs : List Int} (hl : xs.length = m + 1) (h8 : m + 1 ≤ 50) (hb : ∀ c, c < m + 1 → 0 ≤ nth xs c ∧ nth xs c < (m : Int) + 1) :
    (insertionSort (fun x y : Fin (m + 1) => decide (nth xs x.val < nth xs y.val)) (allFin m).toArray 0 (m + 1)).toList.map (fun i => ((i.val : Nat) : Int)) = carsL xs := by
  have hsz : (allFin m).toArray.size = m + 1 := by simp [allFin]
  have hcong : insertionSort (fun x y : Fin (m + 1) => decide (nth xs x.val < nth xs y.val)) (allFin m).toArray 0 (m + 1) = insertionSort (fun x y : Fin (m + 1) => decide (keyC xs x.val < keyC xs y.val)) (allFin m).toArray 0 (m + 1) := by
    unfold insertionSort
    refine insOuter_congr (fun x y hxy => ?_) (m + 1) m 1 _ (by omega) (by rw [hsz]; omega) (by rw [hsz]; omega) (fun k hk hs => ?_) (fun k hk hs => ?_)
    · have hx := hb x.val x.isLt
      have hy := hb y.val y.isLt
      have h1 := x.isLt
      unfold keyC
      rw [Int.toNat_natCast, Int.toNat_natCast]
      rw [decide_eq_decide]
      omega
    · rw [allFin_get (by omega)]; exact hk
    · rw [allFin_get (by omega)]
  rw [hcong]
  have hswo : SWO (fun x y : Fin (m + 1) => decide (keyC xs x.val < keyC xs y.val)) := ⟨fun x => by simp, fun x y z h1 h2 => by simp at *; omega, fun x y z h1 h2 => by simp at *; omega⟩
  obtain ⟨hp, hs⟩ := insertionSort_holds hswo (allFin m).toArray 0 (m + 1) (by omega) (by rw [hsz]; omega)
  generalize insertionSort (fun x y : Fin (m + 1) => decide (keyC xs x.val < keyC xs y.val)) (allFin m).toArray 0 (m + 1) = d' at hp hs ⊢
  have hlen : (allFin m).length = m + 1 := by simp [allFin]
  obtain ⟨q1, q2⟩ := sorted_cars_list hlen hp hs
  have h0 : ∀ c, c < xs.length → 0 ≤ nth xs c := fun c hc => (hb c (by omega)).1
  have hsorted := carsTo_sorted (by omega) h0 xs.length
  have hmem : ∀ v : Int, v ∈ carsL xs ↔ v ∈ (allFin m).map (fun i => ((i.val : Nat) : Int)) := fun v => by
    unfold carsL
    rw [mem_carsTo h0, List.mem_map]
    constructor
    · rintro ⟨c, h1, h2, rfl⟩
      exact ⟨⟨c, by omega⟩, by simp [allFin], rfl⟩
    · rintro ⟨c, _, rfl⟩
      have h1 := c.isLt
      exact ⟨c.val, by omega, by have := hb c.val h1; omega, rfl⟩
  have hnd : (carsL xs).Nodup := hsorted.imp fun {a b} hab => by rintro rfl; omega
  have hnd2 : ((allFin m).map (fun i => ((i.val : Nat) : Int))).Nodup := by
    unfold allFin
    refine List.Pairwise.map _ (fun a b hab => ?_) (List.nodup_finRange (m + 1))
    intro e
    exact hab (Fin.ext (by omega))
  have hperm : (carsL xs).Perm ((allFin m).map (fun i => ((i.val : Nat) : Int))) := (List.perm_ext_iff_of_nodup hnd hnd2).2 hmem
  have hd : (d'.toList.map (fun i => ((i.val : Nat) : Int))).Perm (carsL xs) := (q1.map _).trans hperm.symm
  refine List.Perm.eq_of_pairwise (le := fun v w => keyC xs v ≤ keyC xs w) (fun a b ha hb' h1 h2 => ?_) ?_ (hsorted.imp fun {a b} hab => by omega) hd
  · have ha' := (hmem a).1 (hd.subset ha)
    have hb'' := (hmem b).1 hb'
    simp only [List.mem_map] at ha' hb''
    obtain ⟨i, _, rfl⟩ := ha'
    obtain ⟨j, _, rfl⟩ := hb''
    have hi := hb i.val i.isLt
    have hj := hb j.val j.isLt
    have h3 := i.isLt
    have h4 := j.isLt
    unfold keyC at h1 h2
    rw [Int.toNat_natCast, Int.toNat_natCast] at h1 h2
    omega
  · rw [List.pairwise_map]
    exact q2.imp fun {a b} hab => by simp at hab; omega
theorem carsL_perm {xs : List Int} {n : Nat} (hl : xs.length = n) (h8 : n ≤ 50) (hb : ∀ c, c < n → 0 ≤ nth xs c ∧ nth xs c < (n : Int)) : (carsL xs).Perm (upto n) := by
  subst hl
  have h0 : ∀ c, c < xs.length → 0 ≤ nth xs c := fun c hc => (hb c hc).1
  have hsorted := carsTo_sorted h8 h0 xs.length
  have hnd : (carsL xs).Nodup := hsorted.imp fun {a b} hab => by rintro rfl; omega
  have hnd2 : (upto xs.length).Nodup := by
    unfold upto
    refine List.Pairwise.map _ (fun a b hab => ?_) (List.nodup_range)
    intro e
    exact hab (by omega)
  refine (List.perm_ext_iff_of_nodup hnd hnd2).2 fun v => ?_
  unfold carsL
  rw [mem_carsTo h0]
  unfold upto
  rw [List.mem_map]
  simp only [List.mem_range]
  constructor
  · rintro ⟨c, h1, _, rfl⟩; exact ⟨c, h1, rfl⟩
  · rintro ⟨c, h1, rfl⟩; exact ⟨c, h1, (hb c h1).2, rfl⟩
theorem length_carsL {xs : List Int} {n : Nat} (hl : xs.length = n) (h8 : n ≤ 50) (hb : ∀ c, c < n → 0 ≤ nth xs c ∧ nth xs c < (n : Int)) : (carsL xs).length = n := by
  rw [(carsL_perm hl h8 hb).length_eq, length_upto]
/-- The heights of cars in a row. -/
def hgtOf (xs ls : List Int) : List Int := (List.range ls.length).map fun (i : Nat) => (i : Int) - nth xs (nth ls i).toNat
theorem length_hgtOf (xs ls : List Int) : (hgtOf xs ls).length = ls.length := by simp [hgtOf]
theorem nth_hgtOf {xs ls : List Int} {i : Nat} (h : i < ls.length) : nth (hgtOf xs ls) i = (i : Int) - nth xs (nth ls i).toNat := by simp [nth, hgtOf, h]
def walkOf (xs : List Int) : (List Int × List Int) × Bool := if isPark xs then ((hgtOf xs (carsL xs), carsL xs), true) else (([], []), false)
end Go.Proofs.Ytakadjhbomggbaa

namespace Go.Proofs.Ytakadjhbomggbaa
open Go.RowKit

/-- A list of nn numbers that was drawn. -/
def DrewListN (nn : Nat) (w : World) (g t : Nat) (e : Ending) (w' : World) : Prop :=
  ∃ a n cap xs t', e = .returned (.slice a n cap) ∧ Own w' w.heap.size a n cap xs ∧ n = nn ∧ Within xs (-1) 100 ∧ AtG w w' g t' ∧ t' ≤ t + 100
/-- A list that was drawn, for the caller of a draw. -/
def DrewList' (w : World) (e : Ending) (w' : World) : Prop :=
  ∃ a n cap xs, e = .returned (.slice a n cap) ∧ Own w' w.heap.size a n cap xs ∧ n ≤ 10 ∧ Within xs (-1) 100 ∧ Below w.heap.size w w'

/-- Two lists that were drawn. -/
def DrewTwo (w : World) (e : Ending) (w' : World) : Prop :=
  ∃ a n cap xs a' n' cap' ys, e = .returned (.tuple #[.slice a n cap, .slice a' n' cap']) ∧ Own w' w.heap.size a n cap xs ∧ Own w' w.heap.size a' n' cap' ys ∧ n ≤ 10 ∧ n' ≤ 10 ∧ Below w.heap.size w w'

/-- Two lists and a bool that were drawn. -/
def DrewTwoB (w : World) (e : Ending) (w' : World) : Prop :=
  ∃ a n cap xs a' n' cap' ys b, e = .returned (.tuple #[.slice a n cap, .slice a' n' cap', .bool b]) ∧ Own w' w.heap.size a n cap xs ∧ Own w' w.heap.size a' n' cap' ys ∧ n ≤ 10 ∧ n' ≤ 10 ∧ Below w.heap.size w w'

end Go.Proofs.Ytakadjhbomggbaa

namespace Go.Proofs.Ytakadjhbomggbaa
open Go.RowKit

theorem freshH (w : World) (a : Option Addr) (n cap : Nat) : Below w.heap.size w (w.alloc (.cells #[.slice a n cap, .int .i64 0, .int .u64 0] 56)) := (Below.refl _ _).alloc (Nat.le_refl _) _
theorem Within.at {xs : List Int} {lo up : Int} (h : Within xs lo up) {i : Nat} (hl : i < xs.length) : lo ≤ Go.Proofs.Ytakadjhbomggbaa.nth xs i ∧ Go.Proofs.Ytakadjhbomggbaa.nth xs i ≤ up := h _ (nth_mem hl)
/-- Heights, whatever they are, and the cursor stands. -/
def DrewHts (w : World) (g t : Nat) (e : Ending) (w' : World) : Prop :=
  ∃ a n cap hs t', e = .returned (.slice a n cap) ∧ Own w' w.heap.size a n cap hs ∧ n ≤ 9 ∧ Within hs (-1) 100 ∧ AtG w w' g t' ∧ t' ≤ t + 100
set_option maxRecDepth 100000 in
set_option maxHeartbeats 2000000 in
theorem heights_cur (g t most : Nat) (w : World) (h : Cur w g t) (ht : t ≤ 1000) (hm : most ≤ 8) :
    Calls Try.prog 73 #[.pointer (some ⟨g, 0, none⟩), .int .i64 (most : Int)] w (DrewHts w g t) := by
  have hgl := h.lt
  have A0 := AtG.new h
  have hw1 : IntKind.i64.wrap ((most : Int) + 1) = (most : Int) + 1 := by rw [IntKind.wrap_i64]; omega
  go_enter Try.func73, Try.ntmps73
  go_wp2_with fail
  refine (pick_cur g t ((most : Int) + 1) _ A0.cur (by omega) (by omega)).mono ?_
  rintro e w3 ⟨n0, rfl, n1, n2, ⟨t3, te, tf, hc3⟩, hg3⟩
  have A4 := A0.pick hc3 hg3
  obtain ⟨nn, rfl⟩ : ∃ nn : Nat, n0 = (nn : Int) := ⟨_, (Int.toNat_of_nonneg n1).symm⟩
  have hnn : nn ≤ 8 := by omega
  clear hc3 hg3 A0 n2 n1
  go_wp2_with fail
  go_loopw [5, 6, 7] (fun o lf n wr => ∃ (k j : Nat) (l : Int) (a' : Option Addr) (cap' : Nat) (xs : List Int) (t' : Nat), k + j ≤ 8 ∧ -1 ≤ l ∧ l ≤ (j : Int) ∧ n = .int .i64 (k : Int) ∧ lf = .int .i64 l ∧ o = .slice a' j cap' ∧ Own wr w.heap.size a' j cap' xs ∧ Within xs (-1) (j : Int) ∧ AtG w wr g t' ∧ t' ≤ t + 2 + 4 * j) (fun _ _ n _ => (intOf n).toNat)
  case atStart => exact ⟨nn, 0, -1, none, 0, [], t3, by omega, by omega, by omega, rfl, rfl, rfl, Own.nil _ _, (fun x hx => by simp at hx), A4, by omega⟩
  case round =>
    obtain ⟨k, j, l, a', cap', xs, t', hkj, l0, l1, rfl, rfl, rfl, hown, hwi, A, ht'⟩ := hrel
    clear A4
    by_cases hk0 : 0 < k
    · have hwl : IntKind.i64.wrap (l + 2) = l + 2 := by rw [IntKind.wrap_i64]; omega
      go_wp2_with fail
      refine (pick_cur g t' (l + 2) _ A.cur (by omega) (by omega)).mono ?_
      rintro e w5 ⟨v5, rfl, v50, v51, ⟨t5, x1, x2, hc5⟩, hg5⟩
      have A5 := A.pick hc5 hg5
      have o5 := hown.kept hg5 (.inl hgl)
      have hv5 : v5 ≤ (j : Int) + 1 := by omega
      clear hc5 hg5 hown A v51
      go_wp2_with fail
      refine (one_cur g t5 4 _ A5.cur (by omega) (by omega)).mono ?_
      rintro e w6 ⟨b6, rfl, ⟨t6, x3, x4, hc6⟩, hg6⟩
      have A6 := A5.pick hc6 hg6
      have o6 := o5.kept hg6 (.inl hgl)
      have hs6 := A6.size
      clear hc6 hg6 o5 A5
      have hw4 : IntKind.i64.wrap ((k : Int) - 1) = (k : Int) - 1 := by rw [IntKind.wrap_i64]; omega
      have HW := hid hwi
      clear hwi
      cases b6 with
      | false =>
        go_wp2_with (at_builtin; refine wpList_append_int _ rfl _ _ rfl w.heap.size _ _ _ _ _ rfl rfl o6 (by omega) hs6 ?_; intro a7 cap7 w7 o7 hb7)
        have A7 := A6.later hb7 (Nat.le_refl _)
        clear A6 o6 hb7
        go_roundw
        case rel => exact ⟨k - 1, j + 1, v5, a7, cap7, _, t6, by omega, by omega, by omega, congrArg (Value.int .i64) (by omega), rfl, rfl, o7, (HW.out.wide (by omega) (by omega)).snoc ⟨by omega, by omega⟩, A7, by omega⟩
        case measure => simp [intOf]; omega
      | true =>
        by_cases hj0 : 0 < j
        · obtain ⟨gg, rfl, q1, q2, q3, q4⟩ := o6.opened hj0
          have hck := q3 (j - 1) (by omega)
          have hb := HW.out.at (i := j - 1) (by have := o6.len; omega)
          obtain ⟨x, hx⟩ : ∃ x, nth xs (j - 1) = x := ⟨_, rfl⟩
          rw [hx] at hck hb
          have hwj : IntKind.i64.wrap ((j : Int) - 1) = ((j - 1 : Nat) : Int) := by rw [IntKind.wrap_i64]; omega
          have hwx : IntKind.i64.wrap (x + 1) = x + 1 := by clear hwj; rw [IntKind.wrap_i64]; omega
          have hjp : (0 : Int) < (j : Int) := by omega
          clear q3 q4 hx
          go_wp2_with (at_builtin; refine wpList_append_int _ rfl _ _ rfl w.heap.size _ _ _ _ _ rfl rfl o6 (by omega) hs6 ?_; intro a7 cap7 w7 o7 hb7)
          have A7 := A6.later hb7 (Nat.le_refl _)
          clear A6 o6 hb7
          go_roundw
          case rel => exact ⟨k - 1, j + 1, x + 1, a7, cap7, _, t6, by omega, by omega, by omega, congrArg (Value.int .i64) (by omega), rfl, rfl, o7, (HW.out.wide (by omega) (by omega)).snoc ⟨by omega, by omega⟩, A7, by omega⟩
          case measure => simp [intOf]; omega
        · obtain rfl : j = 0 := by omega
          go_wp2_with (at_builtin; refine wpList_append_int _ rfl _ _ rfl w.heap.size _ _ _ _ _ rfl rfl o6 (by omega) hs6 ?_; intro a7 cap7 w7 o7 hb7)
          have A7 := A6.later hb7 (Nat.le_refl _)
          clear A6 o6 hb7
          go_roundw
          case rel => exact ⟨k - 1, 0 + 1, v5, a7, cap7, _, t6, by omega, by omega, by omega, congrArg (Value.int .i64) (by omega), rfl, rfl, o7, (HW.out.wide (by omega) (by omega)).snoc ⟨by omega, by omega⟩, A7, by omega⟩
          case measure => simp [intOf]; omega
    · obtain rfl : k = 0 := by omega
      have hs1 := A.size
      have HW := hid hwi
      clear hwi
      go_wp2_with fail
      refine (pick_cur g t' 14 _ A.cur (by omega) (by omega)).mono ?_
      rintro e w5 ⟨v5, rfl, v50, v51, ⟨t5, x1, x2, hc5⟩, hg5⟩
      have A5 := A.pick hc5 hg5
      have o5 := hown.kept hg5 (.inl hgl)
      have hs5 := A5.size
      clear hc5 hg5 hown A v51
      by_cases e0 : v5 = 0
      · subst e0
        go_wp2_with fail
        refine (pick_cur g t5 4 _ A5.cur (by omega) (by omega)).mono ?_
        rintro e w6 ⟨v6, rfl, v60, v61, ⟨t6, x3, x4, hc6⟩, hg6⟩
        have A6 := A5.pick hc6 hg6
        have o6 := o5.kept hg6 (.inl hgl)
        have hs6 := A6.size
        clear hc6 hg6 o5 A5
        have hwv : IntKind.i64.wrap (v6 - 1) = v6 - 1 := by rw [IntKind.wrap_i64]; omega
        go_wp2_with (at_builtin; refine wpList_append_int _ rfl _ _ rfl w.heap.size _ _ _ _ _ rfl rfl o6 (by omega) hs6 ?_; intro a7 cap7 w7 o7 hb7)
        go_ret
        exact ⟨_, _, _, _, t6, rfl, o7, by omega, (HW.out.wide (by omega) (by omega)).snoc ⟨by omega, by omega⟩, A6.later hb7 (Nat.le_refl _), by omega⟩
      · by_cases e1 : v5 = 1
        · subst e1
          go_wp2_with fail
          refine (pick_cur g t5 2 _ A5.cur (by omega) (by omega)).mono ?_
          rintro e w6 ⟨v6, rfl, v60, v61, ⟨t6, x3, x4, hc6⟩, hg6⟩
          have A6 := A5.pick hc6 hg6
          obtain ⟨u, rfl⟩ : ∃ u : Nat, v6 = (u : Int) := ⟨_, (Int.toNat_of_nonneg v60).symm⟩
          have hwv : IntKind.i64.wrap (8 + (u : Int)) = ((8 + u : Nat) : Int) := by rw [IntKind.wrap_i64]; omega
          have hs6 := A6.size
          clear hc6 hg6 o5 A5
          go_wp2_with (at_make; refine wpList_make_ints _ rfl _ _ rfl (8 + u) (by first | (simp [Act.eval]; done) | (simp [Act.eval]; omega)) (by first | (simp [Act.eval]; done) | (simp [Act.eval]; omega)) (by omega) ?_; intro a7 cap7 w7 o7 hb7)
          go_ret
          exact ⟨_, _, _, _, t6, rfl, o7.mono hs6, by omega, (fun y hy => by have := List.eq_of_mem_replicate hy; omega), A6.later hb7 hs6, by omega⟩
        · have hb0 : (v5 == 0) = false := by simp [e0]
          have hb1 : (v5 == 1) = false := by simp [e1]
          clear e0 e1
          go_wp2_with fail
          refine bodyPost_ret (v := .slice a' j cap') (by simp [results, Try.results73, go_sem]) rfl ?_
          exact ⟨_, _, _, _, t5, rfl, o5, by omega, HW.out.wide (by omega) (by omega), A5, by omega⟩

/-- Heights, for the caller of a draw. -/
def DrewHeights (w : World) (e : Ending) (w' : World) : Prop := ∃ a n cap hs, e = .returned (.slice a n cap) ∧ Own w' w.heap.size a n cap hs ∧ n ≤ 9 ∧ Within hs (-1) 100 ∧ Below w.heap.size w w'
theorem drawTurnHeights_any (a : Option Addr) (n cap : Nat) (w : World) (h : HasB w a n w.heap.size) :
    Calls Try.prog 33 #[.slice a n cap] w (DrewHeights w) := by
  have C0 := cur_new (cap := cap) h
  have hb0 := freshH w a n cap
  go_enter Try.func33, Try.ntmps33
  go_wp2_with fail
  refine (heights_cur _ 0 8 _ C0 (by omega) (by omega)).mono ?_
  rintro e w1 ⟨a1, n1, c1, hs, t1, rfl, o, hn, hw, A, ht⟩
  go_wp2_with fail
  go_ret
  exact ⟨_, _, _, _, rfl, o.mono (by simp), hn, hw, hb0.trans A.below⟩
theorem drawFirstLabels_any (a : Option Addr) (n cap : Nat) (w : World) (h : HasB w a n w.heap.size) :
    Calls Try.prog 36 #[.slice a n cap] w (DrewHeights w) := by
  have C0 := cur_new (cap := cap) h
  have hb0 := freshH w a n cap
  go_enter Try.func36, Try.ntmps36
  go_wp2_with fail
  refine (heights_cur _ 0 8 _ C0 (by omega) (by omega)).mono ?_
  rintro e w1 ⟨a1, n1, c1, hs, t1, rfl, o, hn, hw, A, ht⟩
  go_wp2_with fail
  go_ret
  exact ⟨_, _, _, _, rfl, o.mono (by simp), hn, hw, hb0.trans A.below⟩
theorem drawBounceOf_any (a : Option Addr) (n cap : Nat) (w : World) (h : HasB w a n w.heap.size) :
    Calls Try.prog 39 #[.slice a n cap] w (DrewHeights w) := by
  have C0 := cur_new (cap := cap) h
  have hb0 := freshH w a n cap
  go_enter Try.func39, Try.ntmps39
  go_wp2_with fail
  refine (heights_cur _ 0 8 _ C0 (by omega) (by omega)).mono ?_
  rintro e w1 ⟨a1, n1, c1, hs, t1, rfl, o, hn, hw, A, ht⟩
  go_wp2_with fail
  go_ret
  exact ⟨_, _, _, _, rfl, o.mono (by simp), hn, hw, hb0.trans A.below⟩
end Go.Proofs.Ytakadjhbomggbaa

namespace Go.Proofs.Ytakadjhbomggbaa
open Go.RowKit

def twiceChk (hs : List Int) : Bool := decide (turnL (turnL hs) = hs) && decide (total (turnL hs) = total hs) && hgtB (turnL hs) && decide (idxs (touchAt (turnL hs)) hs.length = (idxs (touchAt hs) hs.length).reverse.map (fun t => (hs.length : Int) - t))
set_option maxHeartbeats 8000000 in
theorem tw_lt7 : ∀ n, n < 7 → (waF n []).all twiceChk = true := by decide +kernel
set_option maxHeartbeats 8000000 in
theorem tw_7_000 : (waF 4 [0,0,0]).all twiceChk = true := by decide +kernel
set_option maxHeartbeats 8000000 in
theorem tw_7_001 : (waF 4 [0,0,1]).all twiceChk = true := by decide +kernel
set_option maxHeartbeats 8000000 in
theorem tw_7_010 : (waF 4 [0,1,0]).all twiceChk = true := by decide +kernel
set_option maxHeartbeats 8000000 in
theorem tw_7_011 : (waF 4 [0,1,1]).all twiceChk = true := by decide +kernel
set_option maxHeartbeats 8000000 in
theorem tw_7_012 : (waF 4 [0,1,2]).all twiceChk = true := by decide +kernel
set_option maxHeartbeats 8000000 in
theorem tw_8_000 : (waF 5 [0,0,0]).all twiceChk = true := by decide +kernel
set_option maxHeartbeats 8000000 in
theorem tw_8_001 : (waF 5 [0,0,1]).all twiceChk = true := by decide +kernel
set_option maxHeartbeats 8000000 in
theorem tw_8_010 : (waF 5 [0,1,0]).all twiceChk = true := by decide +kernel
set_option maxHeartbeats 8000000 in
theorem tw_8_011 : (waF 5 [0,1,1]).all twiceChk = true := by decide +kernel
set_option maxHeartbeats 8000000 in
theorem tw_8_012 : (waF 5 [0,1,2]).all twiceChk = true := by decide +kernel
theorem tw_same : ∀ n, n < 9 → (waF n []).all twiceChk = true := fun n hn => by
  by_cases h7 : n < 7
  · exact tw_lt7 n h7
  · rcases (show n = 7 ∨ n = 8 by omega) with rfl | rfl
    · rw [show (7 : Nat) = 3 + 4 from rfl, waF_add, waF_three]
      simp only [List.flatMap_cons, List.flatMap_nil, List.all_append, List.all_nil, tw_7_000, tw_7_001, tw_7_010, tw_7_011, tw_7_012, Bool.and_true]
    · rw [show (8 : Nat) = 3 + 5 from rfl, waF_add, waF_three]
      simp only [List.flatMap_cons, List.flatMap_nil, List.all_append, List.all_nil, tw_8_000, tw_8_001, tw_8_010, tw_8_011, tw_8_012, Bool.and_true]
/-- Heights turned to the other end: turned back they are the same, with the same sum, and touch where these do from there. -/
theorem turn_facts {hs : List Int} (h : hgtB hs = true) : turnL (turnL hs) = hs ∧ total (turnL hs) = total hs ∧ hgtB (turnL hs) = true ∧ idxs (touchAt (turnL hs)) hs.length = (idxs (touchAt hs) hs.length).reverse.map (fun t => (hs.length : Int) - t) := by
  have := all_heights tw_same h
  unfold twiceChk at this
  simp only [Bool.and_eq_true, decide_eq_true_eq] at this
  exact ⟨this.1.1.1, this.1.1.2, this.1.2, this.2⟩
theorem outB_upto : ∀ n, n < 9 → outB (upto n) = true := by decide +kernel
theorem upto_walk {hs : List Int} (h : hgtB hs = true) : walkB hs (upto hs.length) = true := by
  refine walkB_iff.2 ⟨h, by simp [length_upto], outB_upto _ (by have := (hgtB_iff.1 h).1; omega), ?_⟩
  rw [length_upto]
  refine riseTo_iff.2 fun i hi => ?_
  unfold riseOk
  cases i with
  | zero => simp [raisedB]
  | succ i => simp only [Nat.add_sub_cancel, nth_upto hi, nth_upto (show i < hs.length by omega)]; simp; omega
end Go.Proofs.Ytakadjhbomggbaa

namespace Go.Proofs.Ytakadjhbomggbaa
open Go.RowKit

set_option maxHeartbeats 400000 in
theorem wSame_any (a b : Option Addr) (n m cap cap' : Nat) (xs ys : List Int) (w : World) (h : Has w a n cap xs) (h' : Has w b m cap' ys) :
    Calls Try.prog 17 #[.slice a n cap, .slice b m cap'] w fun e w' => e = .returned (.bool (same xs ys)) ∧ Quiet w w' := by
  obtain ⟨h0, h1, h2, h3, h4⟩ := h
  obtain ⟨k0, k1, k2, k3, k4⟩ := h'
  by_cases hnm : n = m
  · have hb : ((n : Int) != (m : Int)) = false := by simp [hnm]
    subst hnm
    go_enter Try.func17, Try.ntmps17
    go_wp2_with fail
    go_loopw [13] (fun i wr => ∃ k : Nat, k ≤ n ∧ i = .int .i64 k ∧ FromTo xs ys k ∧ Quiet w wr) (fun i _ => n - (intOf i).toNat)
    case atStart => exact ⟨0, Nat.zero_le _, rfl, fun i hi => by omega, ⟨0, rfl⟩⟩
    case round =>
      obtain ⟨k, hk, rfl, hft, q, hq⟩ := hrel
      subst hq
      by_cases hlt : k < n
      · obtain ⟨b1, off1, rfl, hb1, hc1⟩ := h4 (by omega)
        obtain ⟨b2, off2, rfl, hb2, hc2⟩ := k4 (by omega)
        have hck := hc1 k hlt
        have hdk := hc2 k hlt
        have hkk : (k : Int) < (n : Int) := by omega
        have hkz : (0 : Int) ≤ (k : Int) := by omega
        clear hc1 hc2 h4 k4
        by_cases he : nth xs k = nth ys k
        · have hbe : (nth xs k != nth ys k) = false := by simp [he]
          have HE := hid he
          clear he
          go_wp2_with fail
          go_quiet (fail)
          go_wp2_with fail
          go_roundw
          case rel => exact ⟨k + 1, by omega, by go_num, fun i hi => by rcases Nat.lt_succ_iff_lt_or_eq.1 hi with h | rfl; exact hft i h; exact HE.out.symm, ⟨_, rfl⟩⟩
          case measure => simp [intOf]; omega
        · have hbe : (nth xs k != nth ys k) = true := by simp [he]
          have HE := hid he
          clear he
          go_wp2_with fail
          go_quiet (fail)
          go_wp2_with fail
          go_ret
          exact ⟨ret_bool (same_no HE.out).symm, (Quiet.more ⟨_, rfl⟩ _)⟩
      · obtain rfl : k = n := by omega
        go_wp2_with fail
        go_ret
        exact ⟨ret_bool (same_yes (by omega) (by rw [h0]; exact hft)).symm, ⟨_, rfl⟩⟩
  · have hb : ((n : Int) != (m : Int)) = true := by simp; omega
    go_enter Try.func17, Try.ntmps17
    go_wp2_with fail
    go_ret
    exact ⟨ret_bool (show false = same xs ys from by unfold same; symm; rw [decide_eq_false_iff_not]; rintro rfl; omega), ⟨0, rfl⟩⟩

end Go.Proofs.Ytakadjhbomggbaa

namespace Go.Proofs.Ytakadjhbomggbaa
open Go.RowKit

set_option maxHeartbeats 400000 in
theorem wSameWalk_any (a b c d : Option Addr) (n cap m cap' n' cap1 m' cap2 : Nat) (hs ls hs' ls' : List Int) (w : World) (h : Has w a n cap hs) (h' : Has w b m cap' ls) (k : Has w c n' cap1 hs') (k' : Has w d m' cap2 ls') :
    Calls Try.prog 12 #[.agg #[.slice a n cap, .slice b m cap'], .agg #[.slice c n' cap1, .slice d m' cap2]] w fun e w' => e = .returned (.bool (same hs hs' && same ls ls')) ∧ Below w.heap.size w w' := by
  go_enter Try.func12, Try.ntmps12
  go_wp2_with fail
  generalize hW : ((w.alloc (.cells #[.slice a n cap, .slice b m cap'] 27)).alloc (.cells #[.slice c n' cap1, .slice d m' cap2] 27)) = W
  have hbW : Below w.heap.size w W := by rw [← hW]; exact ((Below.refl _ w).alloc (Nat.le_refl _) _).alloc (by simp) _
  have hsz : W.heap.size = w.heap.size + 2 := by rw [← hW]; simp
  have B1 : BoxAt W w.heap.size (.slice a n cap) (.slice b m cap') := by rw [← hW]; exact (boxAt_new _ _ _ _).alloc _
  have B2 : BoxAt W (w.heap.size + 1) (.slice c n' cap1) (.slice d m' cap2) := by rw [← hW]; have := boxAt_new (w.alloc (.cells #[.slice a n cap, .slice b m cap'] 27)) (.slice c n' cap1) (.slice d m' cap2) 27; simpa using this
  clear hW
  refine (wSame_any _ _ _ _ _ _ _ _ _ (h.below hbW (Nat.le_refl _)) (k.below hbW (Nat.le_refl _))).mono ?_
  rintro e w1 ⟨rfl, q, rfl⟩
  have B1' : BoxAt (W.drewN q) w.heap.size (.slice a n cap) (.slice b m cap') := ⟨B1.c0, B1.c1, B1.f0, B1.f1⟩
  have B2' : BoxAt (W.drewN q) (w.heap.size + 1) (.slice c n' cap1) (.slice d m' cap2) := ⟨B2.c0, B2.c1, B2.f0, B2.f1⟩
  have hb1 : Below w.heap.size w (W.drewN q) := below_drewN hbW _
  generalize W.drewN q = V at *
  obtain ⟨_, _, _, _⟩ := B1'
  obtain ⟨_, _, _, _⟩ := B2'
  by_cases hh : same hs hs' = true
  · rw [hh]
    go_wp2_with fail
    refine (wSame_any _ _ _ _ _ _ _ _ _ (h'.below hb1 (Nat.le_refl _)) (k'.below hb1 (Nat.le_refl _))).mono ?_
    rintro e w2 ⟨rfl, q2, rfl⟩
    have hb2 : Below w.heap.size w (V.drewN q2) := below_drewN hb1 _
    by_cases hl : same ls ls' = true
    · rw [hl]
      go_wp2_with fail
      go_ret
      exact ⟨ret_bool (by rw [hh, hl]; rfl), hb2⟩
    · rw [Bool.eq_false_iff.2 hl]
      go_wp2_with fail
      go_ret
      exact ⟨ret_bool (by rw [hh, Bool.eq_false_iff.2 hl]; rfl), hb2⟩
  · rw [Bool.eq_false_iff.2 hh]
    go_wp2_with fail
    go_ret
    exact ⟨ret_bool (by rw [Bool.eq_false_iff.2 hh]; rfl), hb1⟩

set_option maxHeartbeats 400000 in
theorem wSumX_any (a : Option Addr) (n cap : Nat) (xs : List Int) (w : World) (h : Has w a n cap xs) (h8 : n ≤ 100) (hb : ∀ i, i < n → 0 ≤ nth xs i ∧ nth xs i ≤ 5000) :
    Calls Try.prog 24 #[.slice a n cap] w fun e w' => e = .returned (.int .i64 (total xs)) ∧ w = w' := by
  have HL := hid h.len
  have HB := hid hb
  clear hb
  go_enter Try.func24, Try.ntmps24
  go_wp2_with fail
  go_loop [3, 8] (fun s i => ∃ (k : Nat) (v : Int), k ≤ n ∧ i = .int .i64 (k : Int) ∧ s = .int .i64 v ∧ Hid (v = total (xs.take k)) ∧ 0 ≤ v ∧ v ≤ 5000 * (k : Int)) (fun _ i => n - (intOf i).toNat)
  case atStart => exact ⟨0, 0, by omega, rfl, rfl, hid rfl, by omega, by omega⟩
  case round =>
    obtain ⟨k, v, hk, rfl, rfl, HV, s0, s1⟩ := hrel
    by_cases hlt : k < n
    · obtain ⟨b0, off, rfl, hbb, hc⟩ := h.2.2.2.2 (by omega)
      have hck := hc k hlt
      obtain ⟨u0, u1⟩ := HB.out k hlt
      have HS : Hid (total (xs.take (k + 1)) = v + nth xs k) := hid (by rw [total_succ (by rw [HL.out]; exact hlt), HV.out])
      clear hc
      go_wp2_with fail
      go_round
      case rel => exact ⟨k + 1, v + nth xs k, by omega, by go_num, by go_num, hid HS.out.symm, by omega, by omega⟩
      case measure => simp [intOf]; omega
    · obtain rfl : k = n := by omega
      have HR : Hid (v = total xs) := hid (by rw [HV.out, List.take_of_length_le (by rw [HL.out]; omega)])
      go_wp2_with fail
      go_ret
      exact ⟨ret_int HR.out, rfl⟩
end Go.Proofs.Ytakadjhbomggbaa

namespace Go.Proofs.Ytakadjhbomggbaa
open Go.RowKit

theorem run_up2 {hs : List Int} {k : Nat} (h0 : 0 < k) (h : nth hs k = nth hs (k - 1) + 1) : runAt hs (k + 1) = runAt hs k + 1 := by simp [runAt, raisedB, h, h0]
theorem run_flat2 {hs : List Int} {k : Nat} (_h0 : 0 < k) (h : ¬ nth hs k = nth hs (k - 1) + 1) : runAt hs (k + 1) = 1 := by simp [runAt, raisedB, h]

/-- A walk and a bool. -/
def PostWalk (w : World) (r : (List Int × List Int) × Bool) (e : Ending) (w' : World) : Prop :=
  ∃ a n c b m d, e = .returned (.tuple #[.agg #[.slice a n c, .slice b m d], .bool r.2]) ∧ Own w' w.heap.size a n c r.1.1 ∧ Own w' w.heap.size b m d r.1.2 ∧ Apart2 a b ∧ Below w.heap.size w w'
theorem postWalk {w w' : World} {r : (List Int × List Int) × Bool} {xs ys : List Int} {ok : Bool} {a b : Option Addr} {n c m d : Nat} (hr : r = ((xs, ys), ok)) (h : Own w' w.heap.size a n c xs) (h' : Own w' w.heap.size b m d ys) (hap : Apart2 a b) (hb : Below w.heap.size w w') :
    PostWalk w r (.returned (.tuple #[.agg #[.slice a n c, .slice b m d], .bool ok])) w' := by subst hr; exact ⟨_, _, _, _, _, _, rfl, h, h', hap, hb⟩
theorem postWalk_no {w w' : World} {r : (List Int × List Int) × Bool} (hr : r = (([], []), false)) (hb : Below w.heap.size w w') : PostWalk w r (.returned (.tuple #[.agg #[.slice none 0 0, .slice none 0 0], .bool false])) w' :=
  postWalk hr (Own.nil _ _) (Own.nil _ _) (apart_none _) hb

/-- The first k numbers are their indices. -/
def IxAt (ys : List Int) (k : Nat) : Prop := ∀ i, i < k → nth ys i = (i : Int)
theorem ix_all {ys : List Int} {n : Nat} (h : IxAt ys n) (hl : ys.length = n) : ys = upto n := ext_nth (by rw [hl, length_upto]) fun i hi => by rw [h i (by omega), nth_upto (by omega)]
theorem ix_step {ys : List Int} {k n : Nat} (h : IxAt ys k) (hl : ys.length = n) (hk : k < n) : IxAt (ys.set k (k : Int)) (k + 1) := fun i hi => by
  rw [nth_set (by omega)]
  split
  · subst_vars; rfl
  · exact h i (by omega)
set_option maxHeartbeats 1000000 in
theorem indicesOf_any (n : Nat) (w : World) (hn : n ≤ 1000) :
    Calls Try.prog 68 #[.int .i64 n] w fun e w' => ∃ a' cap', e = .returned (.slice a' n cap') ∧ Own w' w.heap.size a' n cap' (upto n) ∧ Below w.heap.size w w' := by
  go_enter Try.func68, Try.ntmps68
  go_wp2_with (at_make; refine wpList_make_ints _ rfl _ _ rfl n rfl rfl (by omega) ?_; intro a' cap' w1 hown1 hb1)
  go_loopw [9] (fun i wr => ∃ (k : Nat) (ys : List Int), k ≤ n ∧ i = .int .i64 k ∧ Own wr w.heap.size a' n cap' ys ∧ Hid (IxAt ys k) ∧ Below w.heap.size w wr) (fun i _ => n - (intOf i).toNat)
  case atStart => exact ⟨0, _, Nat.zero_le _, rfl, hown1, hid (fun i hi => by omega), hb1⟩
  case round =>
    obtain ⟨k, ys, hk, rfl, hown, HS, hb⟩ := hrel
    clear hown1 hb1
    by_cases hlt : k < n
    · obtain ⟨g, rfl, hg1, hg2, hg3, hg4⟩ := hown.opened (by omega)
      have hgx := hg3 k hlt
      have hgf := hg4 k
      obtain ⟨s1, s2⟩ := hown.set k (k : Int)
      have HS2 := hid (ix_step HS.out hown.len hlt)
      have hb2 := hb.setCell (p := ⟨g, k, none⟩) hg1 (.int .i64 (k : Int))
      clear hg3 hg4
      go_wp2_with fail
      go_roundw
      case rel => exact ⟨k + 1, _, by omega, by go_num, s1, HS2, hb2⟩
      case measure => simp [intOf]; omega
    · obtain rfl : k = n := by omega
      have HE := hid (ix_all HS.out hown.len)
      go_wp2_with fail
      go_ret
      exact ⟨_, _, rfl, by rw [← HE.out]; exact hown, hb⟩

set_option maxHeartbeats 1000000 in
theorem implFirstW_any (a : Option Addr) (n cap : Nat) (hs : List Int) (w : World) (h : Has w a n cap hs) :
    Calls Try.prog 37 #[.slice a n cap] w (PostWalk w (firstOfW hs)) := by
  have HL := hid h.len
  have hle := h.le
  have hbW : Below w.heap.size w (w.alloc (.cells #[.slice none 0 0, .slice none 0 0] 27)) := (Below.refl _ w).alloc (Nat.le_refl _) _
  have B1 := boxAt_new w (.slice none 0 0) (.slice none 0 0) 27
  by_cases hg : hgtB hs = true
  · have HR : Hid (firstOfW hs = ((hs, upto n), true)) := hid (by simp only [firstOfW]; rw [if_pos hg, HL.out])
    have HG := hid hg
    obtain ⟨h8, hbd⟩ := hgt_of hg h.len
    clear hg hbd
    go_enter Try.func37, Try.ntmps37
    go_wp2_with fail
    generalize w.alloc (.cells #[.slice none 0 0, .slice none 0 0] 27) = W at *
    refine (implAreHeights_any _ _ _ _ _ (h.below hbW (Nat.le_refl _))).mono ?_
    rintro e w1 ⟨rfl, st⟩
    rw [HG.out]
    replace B1 := B1.below st (boxAt_lt B1)
    have hb1 := hbW.trans (st.mono hbW.size)
    clear st
    have B1w := B1
    go_wp2_with fail
    refine (clone_any _ _ _ _ _ (h.below hb1 (Nat.le_refl _))).mono ?_
    rintro e w2 ⟨a2, c2, rfl, own2, st⟩
    replace B1 := B1.below st (boxAt_lt B1)
    have hb2 := hb1.trans (st.mono hb1.size)
    have hs1 := hb1.size
    have hlt1 := boxAt_lt B1w
    have hs2 := st.size
    clear st
    go_wp2_with fail
    refine (indicesOf_any n _ (by omega)).mono ?_
    rintro e w3 ⟨a3, c3, rfl, own3, st⟩
    have ap := apart_lt own2.lt own3.ge
    have hs3 := st.size
    have own2' := own2.below st (Nat.le_refl _)
    have hb3 := hb2.trans (st.mono hb2.size)
    replace B1 := B1.below st (boxAt_lt B1)
    have hge2 := own2'.ge.mono (show w.heap.size + 1 ≤ w1.heap.size by omega)
    have hge3 := own3.ge.mono (show w.heap.size + 1 ≤ w2.heap.size by omega)
    have B2 := (B1.set0 (z := .slice a2 n c2)).set1 (z := .slice a3 n c3)
    have f1 := ((own2'.mono (show w.heap.size ≤ w1.heap.size by omega)).setBelow' (g := w.heap.size) (i := 0) hge2 (.slice a2 n c2)).setBelow' (g := w.heap.size) (i := 1) hge2 (.slice a3 n c3)
    have f2 := ((own3.mono (show w.heap.size ≤ w2.heap.size by omega)).setBelow' (g := w.heap.size) (i := 0) hge3 (.slice a2 n c2)).setBelow' (g := w.heap.size) (i := 1) hge3 (.slice a3 n c3)
    have hb4 := (hb3.setCell (p := ⟨w.heap.size, 0, none⟩) (by simp) (.slice a2 n c2)).setCell (p := ⟨w.heap.size, 1, none⟩) (by simp) (.slice a3 n c3)
    obtain ⟨x1, x2, x3, x4⟩ := id B1
    go_wp2_with fail
    obtain ⟨y1, y2, y3, y4⟩ := id B2
    refine bodyPost_ret (v := .tuple #[.agg #[.slice a2 n c2, .slice a3 n c3], .bool true]) (by simp [results, Try.results37, go_sem, *]) rfl (postWalk HR.out f1 f2 ap hb4)
  · have HR : Hid (firstOfW hs = (([], []), false)) := hid (by simp only [firstOfW]; rw [if_neg hg])
    have HG := hid (Bool.eq_false_iff.2 hg)
    clear hg
    go_enter Try.func37, Try.ntmps37
    go_wp2_with fail
    generalize w.alloc (.cells #[.slice none 0 0, .slice none 0 0] 27) = W at *
    refine (implAreHeights_any _ _ _ _ _ (h.below hbW (Nat.le_refl _))).mono ?_
    rintro e w1 ⟨rfl, st⟩
    rw [HG.out]
    replace B1 := B1.below st (boxAt_lt B1)
    have hb1 := hbW.trans (st.mono hbW.size)
    have B2 := (B1.set0 (z := .slice none 0 0)).set1 (z := .slice none 0 0)
    obtain ⟨x1, x2, x3, x4⟩ := id B1
    clear st
    go_wp2_with fail
    obtain ⟨y1, y2, y3, y4⟩ := id B2
    refine bodyPost_ret (v := .tuple #[.agg #[.slice none 0 0, .slice none 0 0], .bool false]) (by simp [results, Try.results37, go_sem, *]) rfl (postWalk_no HR.out ((hb1.setCell (by simp) _).setCell (by simp) _))

theorem Own.setNe {w : World} {B g i n cap : Nat} {a : Option Addr} {xs : List Int} (h : Own w B a n cap xs) (hg : ∀ p, a = some p → p.block ≠ g) (u : Value) : Own (w.setCell ⟨g, i, none⟩ u) B a n cap xs := by
  refine ⟨?_, h.2⟩
  have h1 := h.1
  refine ⟨by simpa using h1.1, ?_⟩
  rcases h1.2 with h2 | ⟨k, cap', cur, hv, hk, hh, r⟩
  · exact .inl h2
  · refine .inr ⟨k, cap', cur, hv, hk, ?_, r⟩
    simp at hv
    have := hg _ hv.1
    rw [Below.heap_setCell _ _ _ _ (by simpa using this)]
    exact hh
theorem BlkLt.mono {a : Option Addr} {K K' : Nat} (h : BlkLt a K) (hK : K ≤ K') : BlkLt a K' := fun p hp => Nat.lt_of_lt_of_le (h p hp) hK
theorem BlkLt.ne {a : Option Addr} {K g : Nat} (h : BlkLt a K) (hg : K ≤ g) : ∀ p, a = some p → p.block ≠ g := fun p hp e => by have := h p hp; omega
theorem BlkGe.ne {a : Option Addr} {K g : Nat} (h : BlkGe a K) (hg : g < K) : ∀ p, a = some p → p.block ≠ g := fun p hp e => by have := h p hp; omega

set_option maxHeartbeats 2000000 in
theorem specFirstW_any (a : Option Addr) (n cap : Nat) (hs : List Int) (w : World) (h : Has w a n cap hs) :
    Calls Try.prog 38 #[.slice a n cap] w (PostWalk w (firstOfW hs)) := by
  have HL := hid h.len
  have hle := h.le
  have hbW : Below w.heap.size w (w.alloc (.cells #[.slice none 0 0, .slice none 0 0] 27)) := (Below.refl _ w).alloc (Nat.le_refl _) _
  have B1 := boxAt_new w (.slice none 0 0) (.slice none 0 0) 27
  by_cases hg : hgtB hs = true
  · have HR : Hid (firstOfW hs = ((hs, upto n), true)) := hid (by simp only [firstOfW]; rw [if_pos hg, HL.out])
    have HG := hid hg
    obtain ⟨h8, hbd⟩ := hgt_of hg h.len
    clear hg hbd
    go_enter Try.func38, Try.ntmps38
    go_wp2_with fail
    generalize w.alloc (.cells #[.slice none 0 0, .slice none 0 0] 27) = W at *
    refine (waHeights_any _ _ _ _ _ (h.below hbW (Nat.le_refl _))).mono ?_
    rintro e w' ⟨rfl, rfl⟩
    rw [HG.out]
    go_wp2_with fail
    refine (l1Own_any _ _ _ _ _ (h.below hbW (Nat.le_refl _))).mono ?_
    rintro e w2 ⟨a2, c2, rfl, own2, st⟩
    have hltW := boxAt_lt B1
    replace B1 := B1.below st hltW
    have hb2 := hbW.trans (st.mono hbW.size)
    have hs2 := st.size
    have lt2 := own2.lt
    clear st
    have B2 := boxAt_new w2 (.slice a2 n c2) (.slice none 0 0) 27
    have st : Below w2.heap.size w2 (w2.alloc (.cells #[.slice a2 n c2, .slice none 0 0] 27)) := (Below.refl _ _).alloc (Nat.le_refl _) _
    have own2' := own2.below st (Nat.le_refl _)
    have B1' := B1.below st (boxAt_lt B1)
    have hb3 := hb2.trans (st.mono hb2.size)
    clear st own2
    go_wp2_with fail
    go_loopw [15] (fun i wr => ∃ (k : Nat) (a' : Option Addr) (c' : Nat), k ≤ n ∧ i = .int .i64 k ∧ Own wr W.heap.size a2 n c2 hs ∧ Own wr (w2.heap.size + 1) a' k c' (upto k) ∧ BoxAt wr w.heap.size (.slice none 0 0) (.slice none 0 0) ∧ BoxAt wr w2.heap.size (.slice a2 n c2) (.slice a' k c') ∧ Below w.heap.size w wr) (fun i _ => n - (intOf i).toNat)
    case atStart => exact ⟨0, none, 0, Nat.zero_le _, rfl, own2', Own.nil _ _, B1', B2, hb3⟩
    case round =>
      obtain ⟨k, a', c', hk, rfl, oh, ol, X1, X2, hb⟩ := hrel
      clear own2' B1 B1' B2 hb3
      by_cases hlt : k < n
      · have HU := hid (upto_succ k)
        have hsz := boxAt_lt X2
        obtain ⟨x1, x2, x3, x4⟩ := id X2
        go_wp2_with (at_builtin; refine wpList_append_int _ rfl _ _ rfl (w2.heap.size + 1) _ _ _ _ _ rfl rfl ol (by omega) hsz ?_; intro a3 c3 w3 ol3 st; have X3 := X2.below st (Nat.lt_succ_self _); obtain ⟨z1, z2, z3, z4⟩ := id X3)
        have oh3 := (oh.belowB st (lt2.mono (Nat.le_succ _))).setNe (g := w2.heap.size) (i := 1) (lt2.ne (Nat.le_refl _)) (.slice a3 (k + 1) c3)
        have ol4 := ol3.setNe (g := w2.heap.size) (i := 1) (ol3.ge.ne (Nat.lt_succ_self _)) (.slice a3 (k + 1) c3)
        have X1' := (X1.below st (by omega)).apart (g' := w2.heap.size) (i := 1) (z := .slice a3 (k + 1) c3) (by omega)
        have X2' := X3.set1 (z := .slice a3 (k + 1) c3)
        have hb4 := (hb.trans (st.mono (by omega))).setCell (p := ⟨w2.heap.size, 1, none⟩) (by simp; omega) (.slice a3 (k + 1) c3)
        go_roundw
        case rel => exact ⟨k + 1, a3, c3, by omega, by go_num, oh3, by rw [HU.out]; exact ol4, X1', X2', hb4⟩
        case measure => simp [intOf]; omega
      · obtain rfl : k = n := by omega
        have ap := apart_lt lt2 (ol.ge.mono (Nat.le_succ _))
        have f1 := ((oh.mono (show w.heap.size ≤ W.heap.size by omega)).setNe (g := w.heap.size) (i := 0) (oh.ge.ne (by omega)) (.slice a2 k c2)).setNe (g := w.heap.size) (i := 1) (oh.ge.ne (by omega)) (.slice a' k c')
        have f2 := ((ol.mono (show w.heap.size ≤ w2.heap.size + 1 by omega)).setNe (g := w.heap.size) (i := 0) (ol.ge.ne (by omega)) (.slice a2 k c2)).setNe (g := w.heap.size) (i := 1) (ol.ge.ne (by omega)) (.slice a' k c')
        have B2f := (X1.set0 (z := .slice a2 k c2)).set1 (z := .slice a' k c')
        have hb4 := (hb.setCell (p := ⟨w.heap.size, 0, none⟩) (by simp) (.slice a2 k c2)).setCell (p := ⟨w.heap.size, 1, none⟩) (by simp) (.slice a' k c')
        obtain ⟨x1, x2, x3, x4⟩ := id X2
        obtain ⟨t1, t2, t3, t4⟩ := id X1
        go_wp2_with fail
        obtain ⟨y1, y2, y3, y4⟩ := id B2f
        refine bodyPost_ret (v := .tuple #[.agg #[.slice a2 k c2, .slice a' k c'], .bool true]) (by simp [results, Try.results38, go_sem, *]) rfl (postWalk HR.out f1 f2 ap hb4)
  · have HR : Hid (firstOfW hs = (([], []), false)) := hid (by simp only [firstOfW]; rw [if_neg hg])
    have HG := hid (Bool.eq_false_iff.2 hg)
    clear hg
    go_enter Try.func38, Try.ntmps38
    go_wp2_with fail
    generalize w.alloc (.cells #[.slice none 0 0, .slice none 0 0] 27) = W at *
    refine (waHeights_any _ _ _ _ _ (h.below hbW (Nat.le_refl _))).mono ?_
    rintro e w' ⟨rfl, rfl⟩
    rw [HG.out]
    have B2 := (B1.set0 (z := .slice none 0 0)).set1 (z := .slice none 0 0)
    obtain ⟨x1, x2, x3, x4⟩ := id B1
    go_wp2_with fail
    obtain ⟨y1, y2, y3, y4⟩ := id B2
    refine bodyPost_ret (v := .tuple #[.agg #[.slice none 0 0, .slice none 0 0], .bool false]) (by simp [results, Try.results38, go_sem, *]) rfl (postWalk_no HR.out ((hbW.setCell (by simp) _).setCell (by simp) _))
end Go.Proofs.Ytakadjhbomggbaa

namespace Go.Proofs.Ytakadjhbomggbaa
open Go.RowKit

theorem hgt_small {hs : List Int} {n : Nat} (hl : hs.length = n) (h8 : n ≤ 8) (hb : ∀ i, i < n → 0 ≤ nth hs i ∧ nth hs i ≤ (i : Int)) : Small hs := fun i hi => by
  have := hb i (by omega)
  omega
set_option maxHeartbeats 400000 in
theorem area_any (a : Option Addr) (n cap : Nat) (ys : List Int) (w : World) (h : Has w a n cap ys) (hs : Small ys) :
    Calls Try.prog 62 #[.slice a n cap] w fun e w' => e = .returned (.int .i64 (total ys)) ∧ w = w' := by
  obtain ⟨h0, h1, h2, h3, h4⟩ := h
  go_enter Try.func62, Try.ntmps62
  go_wp2_with fail
  go_loop [3, 8] (fun c i => ∃ k : Nat, k ≤ n ∧ i = .int .i64 k ∧ c = .int .i64 (total (ys.take k))) (fun _ i => n - (intOf i).toNat)
  case atStart => exact ⟨0, Nat.zero_le _, rfl, rfl⟩
  case round =>
    obtain ⟨k, hk, rfl, rfl⟩ := hrel
    by_cases hlt : k < n
    · obtain ⟨b, off, rfl, hb, hc⟩ := h4 (by omega)
      have hck := hc k hlt
      have ht := total_bounds hs k (by omega)
      obtain ⟨hv0, hv1⟩ := hs k (by omega)
      have HS := hid (total_succ (xs := ys) (k := k) (by omega))
      clear hc h4 hs
      go_wp2_with fail
      go_round
      case rel => exact ⟨k + 1, by omega, by go_num, by rw [HS.out]⟩
      case measure => simp [intOf]; omega
    · obtain rfl : k = n := by omega
      go_wp2_with fail
      go_ret
      exact ⟨ret_int (by rw [List.take_of_length_le (by omega)]), rfl⟩

set_option maxHeartbeats 1000000 in
theorem implArea_any (a b : Option Addr) (n cap m cap' : Nat) (hs ls : List Int) (w : World) (h : Has w a n cap hs) (h' : Has w b m cap' ls) :
    Calls Try.prog 19 #[.agg #[.slice a n cap, .slice b m cap']] w (PostInt w (areaOf hs ls)) := by
  have HL := hid h.len
  have HL' := hid h'.len
  have hle := h.le
  have hle' := h'.le
  go_enter Try.func19, Try.ntmps19
  go_wp2_with fail
  generalize hW : w.alloc (.cells #[.slice a n cap, .slice b m cap'] 27) = W
  have hbW : Below w.heap.size w W := by rw [← hW]; exact (Below.refl _ w).alloc (Nat.le_refl _) _
  have B1 : BoxAt W w.heap.size (.slice a n cap) (.slice b m cap') := by rw [← hW]; exact boxAt_new _ _ _ _
  clear hW
  refine (rowsOf_any _ _ _ _ _ _ _ _ _ (h.below hbW (Nat.le_refl _)) (h'.below hbW (Nat.le_refl _))).mono ?_
  rintro e w1 ⟨⟨hw, rfl⟩ | ⟨hw, rfl⟩, st⟩
  · have hb1 := hbW.trans (st.mono hbW.size)
    clear st hbW B1
    have HR : Hid (areaOf hs ls = (total hs, true)) := hid (by simp only [areaOf]; rw [if_pos hw])
    have hnm : n = m := by have := (walkB_iff.1 hw).2.1; rw [HL.out, HL'.out] at this; exact this
    subst hnm
    have HW := hid (walkB_iff.1 hw)
    obtain ⟨h8, hbd⟩ := hgt_of HW.out.1 HL.out
    have C1 := boxAt_new w1 (.slice a n cap) (.slice b n cap') 64
    have hb2 := hb1.alloc hb1.size (.cells #[.slice a n cap, .slice b n cap'] 64)
    have g1 := h.below hb2 (Nat.le_refl _)
    have g2 := h'.below hb2 (Nat.le_refl _)
    have hsz : (w1.alloc (.cells #[.slice a n cap, .slice b n cap'] 64)).heap.size = w1.heap.size + 1 := by simp
    have hs1 := hb1.size
    clear hw h h'
    go_wp2_with fail
    refine (area_any _ _ _ _ _ g1 (hgt_small HL.out h8 hbd)).mono ?_
    rintro e w' ⟨rfl, rfl⟩
    go_wp2_with fail
    go_ret2
    exact postInt HR.out hb2
  · have hb1 := hbW.trans (st.mono hbW.size)
    clear st hbW B1
    have HR : Hid (areaOf hs ls = (0, false)) := hid (by simp only [areaOf]; rw [if_neg (by rw [hw]; decide)])
    go_wp2_with fail
    go_ret2
    exact postInt HR.out (hb1.alloc hb1.size _)

set_option maxHeartbeats 1000000 in
theorem implTouches_any (a b : Option Addr) (n cap m cap' : Nat) (hs ls : List Int) (w : World) (h : Has w a n cap hs) (h' : Has w b m cap' ls) :
    Calls Try.prog 20 #[.agg #[.slice a n cap, .slice b m cap']] w (PostInts w (touchesOf hs ls)) := by
  have HL := hid h.len
  have HL' := hid h'.len
  have hle := h.le
  have hle' := h'.le
  go_enter Try.func20, Try.ntmps20
  go_wp2_with fail
  generalize hW : w.alloc (.cells #[.slice a n cap, .slice b m cap'] 27) = W
  have hbW : Below w.heap.size w W := by rw [← hW]; exact (Below.refl _ w).alloc (Nat.le_refl _) _
  have B1 : BoxAt W w.heap.size (.slice a n cap) (.slice b m cap') := by rw [← hW]; exact boxAt_new _ _ _ _
  clear hW
  refine (rowsOf_any _ _ _ _ _ _ _ _ _ (h.below hbW (Nat.le_refl _)) (h'.below hbW (Nat.le_refl _))).mono ?_
  rintro e w1 ⟨⟨hw, rfl⟩ | ⟨hw, rfl⟩, st⟩
  · have hb1 := hbW.trans (st.mono hbW.size)
    clear st hbW B1
    have HR : Hid (touchesOf hs ls = (idxs (touchAt hs) hs.length, true)) := hid (by simp only [touchesOf]; rw [if_pos hw])
    have hnm : n = m := by have := (walkB_iff.1 hw).2.1; rw [HL.out, HL'.out] at this; exact this
    subst hnm
    have HW := hid (walkB_iff.1 hw)
    obtain ⟨h8, hbd⟩ := hgt_of HW.out.1 HL.out
    have C1 := boxAt_new w1 (.slice a n cap) (.slice b n cap') 64
    have hb2 := hb1.alloc hb1.size (.cells #[.slice a n cap, .slice b n cap'] 64)
    have g1 := h.below hb2 (Nat.le_refl _)
    have g2 := h'.below hb2 (Nat.le_refl _)
    have hsz : (w1.alloc (.cells #[.slice a n cap, .slice b n cap'] 64)).heap.size = w1.heap.size + 1 := by simp
    have hs1 := hb1.size
    clear hw h'
    have G1 := hid h
    clear g1 g2
    go_wp2_with fail
    go_loopw [6, 19] (fun o i wr => ∃ (k q : Nat) (a' : Option Addr) (cq : Nat), k ≤ n ∧ q ≤ k ∧ i = .int .i64 k ∧ o = .slice a' q cq ∧ Own wr w.heap.size a' q cq (idxs (touchAt hs) k) ∧ Below w.heap.size w wr) (fun _ i _ => n - (intOf i).toNat)
    case atStart => exact ⟨0, 0, none, 0, Nat.zero_le _, Nat.zero_le _, rfl, rfl, Own.nil _ _, hb2⟩
    case round =>
      obtain ⟨k, q, a', cq, hk, hq, rfl, rfl, hown, hb⟩ := hrel
      by_cases hlt : k < n
      · obtain ⟨b1, off1, rfl, hbb1, hc1⟩ := G1.out.2.2.2.2 (by omega)
        have hck : wr.cell? ⟨b1, off1 + k, none⟩ = some (.int .i64 (nth hs k)) := by rw [hb.cell (p := ⟨b1, off1 + k, none⟩) hbb1]; exact hc1 k hlt
        have hi := idxs_succ (touchAt hs) k
        clear hc1
        by_cases hk0 : k = 0
        · have HI : Hid (idxs (touchAt hs) (k + 1) = idxs (touchAt hs) k) := hid (by rw [hi]; simp [touchAt, hk0])
          have hp0 : ¬ 0 < k := by omega
          have hp1 : ¬ ((0 : Int) < (k : Int)) := by omega
          clear hi hk0
          go_wp2_with fail
          go_roundw
          case rel => exact ⟨k + 1, q, a', cq, by omega, by omega, by go_num, rfl, by rw [HI.out]; exact hown, hb⟩
          case measure => simp [intOf]; omega
        · have hp1 : (0 : Int) < (k : Int) := by omega
          by_cases hz : nth hs k = 0
          · have HI : Hid (idxs (touchAt hs) (k + 1) = idxs (touchAt hs) k ++ [(k : Int)]) := hid (by rw [hi]; simp [touchAt, hz]; omega)
            have hbe : (nth hs k == 0) = true := by simp [hz]
            clear hi hz
            go_wp2_with (at_builtin; refine wpList_append_int _ rfl _ _ rfl w.heap.size _ _ _ _ _ rfl rfl hown (by omega) hb.size ?_; intro a2 cap2 w2 hown2 hb2)
            go_roundw
            case rel => exact ⟨k + 1, q + 1, a2, cap2, by omega, by omega, by go_num, rfl, by rw [HI.out]; exact hown2, hb.trans hb2⟩
            case measure => simp [intOf]; omega
          · have HI : Hid (idxs (touchAt hs) (k + 1) = idxs (touchAt hs) k) := hid (by rw [hi]; simp [touchAt, hz])
            have hbe : (nth hs k == 0) = false := by simp [hz]
            clear hi hz
            go_wp2_with fail
            go_roundw
            case rel => exact ⟨k + 1, q, a', cq, by omega, by omega, by go_num, rfl, by rw [HI.out]; exact hown, hb⟩
            case measure => simp [intOf]; omega
      · obtain rfl : k = n := by omega
        go_wp2_with fail
        go_ret2
        exact postInts (HR.out.trans (by rw [HL.out])) hown hb
  · have hb1 := hbW.trans (st.mono hbW.size)
    clear st hbW B1
    have HR : Hid (touchesOf hs ls = ([], false)) := hid (by simp only [touchesOf]; rw [if_neg (by rw [hw]; decide)])
    go_wp2_with fail
    go_ret2
    exact postInts_no HR.out (hb1.alloc hb1.size _)
end Go.Proofs.Ytakadjhbomggbaa

namespace Go.Proofs.Ytakadjhbomggbaa
open Go.RowKit

theorem total_hgt {hs : List Int} (h : hgtB hs = true) : ∀ i, i < hs.length → 0 ≤ nth hs i ∧ nth hs i ≤ 5000 := fun i hi => by
  have h8 := (hgtB_iff.1 h).1
  have := (hgt_of h rfl).2 i hi
  omega
/-- What the functions of the law come to. -/
theorem turned_facts (hs : List Int) : ∃ zs ok, turnOf' hs = (zs, ok) ∧ hgtB hs = ok ∧ (ok = true → ∃ ls ts us : List Int, turnOf' zs = (hs, true) ∧ firstOfW hs = ((hs, ls), true) ∧ firstOfW zs = ((zs, ls), true) ∧ total zs = total hs ∧
    touchesOf hs ls = (ts, true) ∧ touchesOf zs ls = (us, true) ∧ us.length = ts.length ∧ (∀ i, i < ts.length → nth us (ts.length - 1 - i) = (hs.length : Int) - nth ts i ∧ 0 ≤ nth ts i ∧ nth ts i ≤ 8) ∧ hs.length ≤ 8 ∧ zs.length = hs.length ∧
    (∀ i, i < hs.length → 0 ≤ nth hs i ∧ nth hs i ≤ 5000) ∧ ∀ i, i < hs.length → 0 ≤ nth zs i ∧ nth zs i ≤ 5000) := by
  by_cases h : hgtB hs = true
  · obtain ⟨f1, f2, f3, f4⟩ := turn_facts h
    have hl : (turnL hs).length = hs.length := by simp [turnL]
    have w1 := upto_walk h
    have w2 := upto_walk f3
    rw [hl] at w2
    refine ⟨turnL hs, true, by simp [turnOf', h], h, fun _ => ⟨upto hs.length, idxs (touchAt hs) hs.length, idxs (touchAt (turnL hs)) hs.length, by simp [turnOf', f3, f1], by simp [firstOfW, h], by simp [firstOfW, f3, hl], f2, by simp [touchesOf, w1], by simp [touchesOf, w2, hl], by rw [f4]; simp, fun i hi => ?_, (hgtB_iff.1 h).1, hl, total_hgt h, by have := total_hgt f3; rwa [hl] at this⟩⟩
    refine ⟨?_, ?_⟩
    · rw [f4]
      have hi2 : (idxs (touchAt hs) hs.length).length - 1 - i < (idxs (touchAt hs) hs.length).length := by omega
      rw [nth, nth, List.getD_eq_getElem?_getD, List.getD_eq_getElem?_getD, List.getElem?_map, List.getElem?_reverse (by omega), List.getElem?_eq_getElem (by omega), List.getElem?_eq_getElem hi]
      simp only [Option.map_some, Option.getD_some]
      congr 2
      omega
    · have hm : nth (idxs (touchAt hs) hs.length) i ∈ idxs (touchAt hs) hs.length := nth_mem hi
      obtain ⟨c, hc, -, e⟩ := mem_idxsZ.1 hm
      have := (hgtB_iff.1 h).1
      omega
  · exact ⟨[], false, by simp [turnOf', h], Bool.eq_false_iff.2 h, fun hx => by cases hx⟩
theorem first_facts (gs : List Int) : ∃ ks ls told, firstOfW gs = ((ks, ls), told) ∧ (told = true → ks = gs ∧ walkB gs ls = true) := by
  by_cases h : hgtB gs = true
  · exact ⟨gs, _, true, by simp [firstOfW, h], fun _ => ⟨rfl, upto_walk h⟩⟩
  · exact ⟨[], [], false, by simp [firstOfW, h], fun hx => by cases hx⟩

set_option maxRecDepth 100000 in
set_option maxHeartbeats 32000000 in
theorem turned_walk (a b : Option Addr) (n m cap cap' : Nat) (w : World) (hn : n ≤ maxLen) (h : n ≤ 1048576 → HasB w a n w.heap.size) (h' : m ≤ 1048576 → HasB w b m w.heap.size) :
    Calls Try.prog 5 #[.slice a n cap, .slice b m cap'] w (Holds w) := by
  have H1 := hid h
  have H2 := hid h'
  have HN := hid hn
  clear h h' hn
  have hB : Below w.heap.size w w := Below.refl _ _
  go_enter Try.func5, Try.ntmps5
  go_wp2_with fail
  refine (big_any _ _ _ _ _ _ _ (by have := HN.out; unfold maxLen at this; omega)).mono ?_
  rintro e _ ⟨r, rfl, hr, rfl⟩
  have HR := hid hr
  clear hr
  cases r with
  | true =>
    go_wp2_with fail
    go_ret
    exact ⟨rfl, hB⟩
  | false =>
    have hnm := HR.out rfl
    clear HR
    have HA := hid (H1.out (by omega))
    have HM := hid (H2.out (by omega))
    clear H1 H2 HN
    go_wp2_with fail
    refine (drawTurnHeights_any _ _ _ _ HA.out).mono ?_
    rintro e v1 ⟨a_h, n_h, c_h, hs, rfl, o_h, hn9, hwi, st⟩
    replace hB := hB.trans (st.mono hB.size)
    clear st
    clear hwi
    obtain ⟨zs, ok, f1, f2, f3⟩ := turned_facts hs
    have HT := hid f1
    have HG := hid f2
    have HF := hid f3
    have hok : (ok != ok) = false := by cases ok <;> rfl
    have HLH := hid o_h.len
    clear f1 f2 f3
    go_wp2_with fail
    refine (implTurnH_any _ _ _ _ _ o_h.has).mono ?_
    rw [HT.out]
    rintro e v2 ⟨a_o, n_o, c_o, rfl, o_o, st⟩
    replace o_h := o_h.below st (Nat.le_refl _)
    replace hB := hB.trans (st.mono hB.size)
    clear st
    go_wp2_with fail
    refine (specTurnH_any _ _ _ _ _ o_h.has).mono ?_
    rw [HT.out]
    rintro e v3 ⟨a_r, n_r, c_r, rfl, o_r, st⟩
    replace o_h := o_h.below st (Nat.le_refl _)
    replace o_o := o_o.below st (Nat.le_refl _)
    replace hB := hB.trans (st.mono hB.size)
    clear st
    go_wp2_with fail
    refine (wSame_any _ _ _ _ _ _ _ _ _ o_o.has o_r.has).mono ?_
    rintro e v4 ⟨rfl, q⟩
    have st : Below v3.heap.size v3 v4 := q.below _
    replace o_h := o_h.below st (Nat.le_refl _)
    replace o_o := o_o.below st (Nat.le_refl _)
    replace o_r := o_r.below st (Nat.le_refl _)
    replace hB := hB.trans (st.mono hB.size)
    clear st
    clear q
    rw [same_self]
    go_wp2_with fail
    refine (implAreHeights_any _ _ _ _ _ o_h.has).mono ?_
    rw [HG.out]
    rintro e v5 ⟨rfl, st⟩
    replace o_h := o_h.below st (Nat.le_refl _)
    replace o_o := o_o.below st (Nat.le_refl _)
    replace o_r := o_r.below st (Nat.le_refl _)
    replace hB := hB.trans (st.mono hB.size)
    clear st
    clear o_r
    go_wp2_with fail
    refine (drawFirstLabels_any b m cap' _ (HM.out.grow hB (Nat.le_refl _))).mono ?_
    rintro e v6 ⟨a_g, n_g, c_g, gs, rfl, o_g, hg9, hwi, st⟩
    replace o_h := o_h.below st (Nat.le_refl _)
    replace o_o := o_o.below st (Nat.le_refl _)
    replace hB := hB.trans (st.mono hB.size)
    clear st
    clear hwi
    obtain ⟨ks, ls, told, f1, f2⟩ := first_facts gs
    have HFW := hid f1
    have HFX := hid f2
    have htt : (told != told) = false := by cases told <;> rfl
    clear f1 f2
    go_wp2_with fail
    refine (implFirstW_any _ _ _ _ _ o_g.has).mono ?_
    rw [HFW.out]
    rintro e v7 ⟨a_w, n_w, c_w, b_w, m_w, d_w, rfl, o_wa, o_wb, ap_w, st⟩
    replace o_h := o_h.below st (Nat.le_refl _)
    replace o_o := o_o.below st (Nat.le_refl _)
    replace o_g := o_g.below st (Nat.le_refl _)
    replace hB := hB.trans (st.mono hB.size)
    clear st
    have st : Below v7.heap.size v7 (v7.alloc (.cells #[.slice a_w n_w c_w, .slice b_w m_w d_w] 27)) := (Below.refl _ _).alloc (Nat.le_refl _) _
    have X_w : BoxAt (v7.alloc (.cells #[.slice a_w n_w c_w, .slice b_w m_w d_w] 27)) v7.heap.size (.slice a_w n_w c_w) (.slice b_w m_w d_w) := boxAt_new _ _ _ _
    go_wp2_with fail
    generalize v7.alloc (.cells #[.slice a_w n_w c_w, .slice b_w m_w d_w] 27) = v8 at *
    replace o_h := o_h.below st (Nat.le_refl _)
    replace o_o := o_o.below st (Nat.le_refl _)
    replace o_g := o_g.below st (Nat.le_refl _)
    replace o_wa := o_wa.below st (Nat.le_refl _)
    replace o_wb := o_wb.below st (Nat.le_refl _)
    replace hB := hB.trans (st.mono hB.size)
    clear st
    obtain ⟨X_w_1, X_w_2, X_w_3, X_w_4⟩ := id X_w
    go_wp2_with fail
    refine (specFirstW_any _ _ _ _ _ o_g.has).mono ?_
    rw [HFW.out]
    rintro e v9 ⟨a_k, n_k, c_k, b_k, m_k, d_k, rfl, o_ka, o_kb, ap_k, st⟩
    clear X_w_1 X_w_2 X_w_3 X_w_4
    replace X_w := X_w.below st (boxAt_lt X_w)
    replace o_h := o_h.below st (Nat.le_refl _)
    replace o_o := o_o.below st (Nat.le_refl _)
    replace o_g := o_g.below st (Nat.le_refl _)
    replace o_wa := o_wa.below st (Nat.le_refl _)
    replace o_wb := o_wb.below st (Nat.le_refl _)
    replace hB := hB.trans (st.mono hB.size)
    clear st
    have st : Below v9.heap.size v9 (v9.alloc (.cells #[.slice a_k n_k c_k, .slice b_k m_k d_k] 27)) := (Below.refl _ _).alloc (Nat.le_refl _) _
    have X_k : BoxAt (v9.alloc (.cells #[.slice a_k n_k c_k, .slice b_k m_k d_k] 27)) v9.heap.size (.slice a_k n_k c_k) (.slice b_k m_k d_k) := boxAt_new _ _ _ _
    obtain ⟨X_w_1, X_w_2, X_w_3, X_w_4⟩ := id X_w
    have X_w_n := X_w.below st (boxAt_lt X_w)
    obtain ⟨X_w_5, X_w_6, X_w_7, X_w_8⟩ := id X_w_n
    go_wp2_with fail
    clear X_w_1 X_w_2 X_w_3 X_w_4
    clear X_w_5 X_w_6 X_w_7 X_w_8
    clear X_w_n
    generalize v9.alloc (.cells #[.slice a_k n_k c_k, .slice b_k m_k d_k] 27) = v10 at *
    replace X_w := X_w.below st (boxAt_lt X_w)
    replace o_h := o_h.below st (Nat.le_refl _)
    replace o_o := o_o.below st (Nat.le_refl _)
    replace o_g := o_g.below st (Nat.le_refl _)
    replace o_wa := o_wa.below st (Nat.le_refl _)
    replace o_wb := o_wb.below st (Nat.le_refl _)
    replace o_ka := o_ka.below st (Nat.le_refl _)
    replace o_kb := o_kb.below st (Nat.le_refl _)
    replace hB := hB.trans (st.mono hB.size)
    clear st
    obtain ⟨X_w_1, X_w_2, X_w_3, X_w_4⟩ := id X_w
    obtain ⟨X_k_1, X_k_2, X_k_3, X_k_4⟩ := id X_k
    go_wp2_with fail
    refine (wSameWalk_any _ _ _ _ _ _ _ _ _ _ _ _ _ _ _ _ _ o_wa.has o_wb.has o_ka.has o_kb.has).mono ?_
    rintro e v11 ⟨rfl, st⟩
    clear X_w_1 X_w_2 X_w_3 X_w_4 X_k_1 X_k_2 X_k_3 X_k_4
    replace X_w := X_w.below st (boxAt_lt X_w)
    replace X_k := X_k.below st (boxAt_lt X_k)
    replace o_h := o_h.below st (Nat.le_refl _)
    replace o_o := o_o.below st (Nat.le_refl _)
    replace o_g := o_g.below st (Nat.le_refl _)
    replace o_wa := o_wa.below st (Nat.le_refl _)
    replace o_wb := o_wb.below st (Nat.le_refl _)
    replace o_ka := o_ka.below st (Nat.le_refl _)
    replace o_kb := o_kb.below st (Nat.le_refl _)
    replace hB := hB.trans (st.mono hB.size)
    clear st
    rw [same_self, same_self]
    clear X_k ap_k
    clear o_ka o_kb
    cases told
    · skip
      obtain ⟨X_w_1, X_w_2, X_w_3, X_w_4⟩ := id X_w
      go_wp2_with fail
      refine (drawBounceOf_any b m cap' _ (HM.out.grow hB (Nat.le_refl _))).mono ?_
      rintro e v12 ⟨a_b, n_b, c_b, bs, rfl, o_b, hb9, hwi, st⟩
      clear X_w_1 X_w_2 X_w_3 X_w_4
      replace X_w := X_w.below st (boxAt_lt X_w)
      replace o_h := o_h.below st (Nat.le_refl _)
      replace o_o := o_o.below st (Nat.le_refl _)
      replace o_g := o_g.below st (Nat.le_refl _)
      replace o_wa := o_wa.below st (Nat.le_refl _)
      replace o_wb := o_wb.below st (Nat.le_refl _)
      replace hB := hB.trans (st.mono hB.size)
      clear st
      clear hwi
      obtain ⟨⟨y, two⟩, f1⟩ : ∃ r, bounceOf bs = r := ⟨_, rfl⟩
      have HBO := hid f1
      have h22 : (two != two) = false := by cases two <;> rfl
      have hyy := neq_self_int y
      clear f1
      obtain ⟨X_w_1, X_w_2, X_w_3, X_w_4⟩ := id X_w
      go_wp2_with fail
      refine (implBounce_any _ _ _ _ _ o_b.has).mono ?_
      rw [HBO.out]
      rintro e v13 ⟨rfl, st⟩
      clear X_w_1 X_w_2 X_w_3 X_w_4
      replace X_w := X_w.below st (boxAt_lt X_w)
      replace o_h := o_h.below st (Nat.le_refl _)
      replace o_o := o_o.below st (Nat.le_refl _)
      replace o_g := o_g.below st (Nat.le_refl _)
      replace o_wa := o_wa.below st (Nat.le_refl _)
      replace o_wb := o_wb.below st (Nat.le_refl _)
      replace o_b := o_b.below st (Nat.le_refl _)
      replace hB := hB.trans (st.mono hB.size)
      clear st
      obtain ⟨X_w_1, X_w_2, X_w_3, X_w_4⟩ := id X_w
      go_wp2_with fail
      refine (specBounce_any _ _ _ _ _ o_b.has).mono ?_
      rw [HBO.out]
      rintro e v14 ⟨rfl, st⟩
      clear X_w_1 X_w_2 X_w_3 X_w_4
      replace X_w := X_w.below st (boxAt_lt X_w)
      replace o_h := o_h.below st (Nat.le_refl _)
      replace o_o := o_o.below st (Nat.le_refl _)
      replace o_g := o_g.below st (Nat.le_refl _)
      replace o_wa := o_wa.below st (Nat.le_refl _)
      replace o_wb := o_wb.below st (Nat.le_refl _)
      replace o_b := o_b.below st (Nat.le_refl _)
      replace hB := hB.trans (st.mono hB.size)
      clear st
      clear o_b
      cases ok
      · skip
        obtain ⟨X_w_1, X_w_2, X_w_3, X_w_4⟩ := id X_w
        go_wp2_with fail
        go_ret
        exact ⟨rfl, hB⟩
      · skip
        obtain ⟨ps, ts, us, f1, f2, f3, f4, f5, f6, f7, f8, f9, f10, f11, f12⟩ := HF.out rfl
        have HTB := hid f1
        have HF1 := hid f2
        have HF2 := hid f3
        have HTO := hid f4
        have HT1 := hid f5
        have HT2 := hid f6
        have HUL := hid f7
        have HTU := hid f8
        have HB1 := hid f11
        have HB2 := hid f12
        have HLZ := hid f10
        clear f1 f2 f3 f4 f5 f6 f7 f8 f11 f12 f10
        rw [HLH.out] at f9
        have hlo := o_o.len
        obtain ⟨X_w_1, X_w_2, X_w_3, X_w_4⟩ := id X_w
        go_wp2_with fail
        refine (implTurnH_any _ _ _ _ _ o_o.has).mono ?_
        rw [HTB.out]
        rintro e v15 ⟨a_t, n_t, c_t, rfl, o_t, st⟩
        clear X_w_1 X_w_2 X_w_3 X_w_4
        replace X_w := X_w.below st (boxAt_lt X_w)
        replace o_h := o_h.below st (Nat.le_refl _)
        replace o_o := o_o.below st (Nat.le_refl _)
        replace o_g := o_g.below st (Nat.le_refl _)
        replace o_wa := o_wa.below st (Nat.le_refl _)
        replace o_wb := o_wb.below st (Nat.le_refl _)
        replace hB := hB.trans (st.mono hB.size)
        clear st
        obtain ⟨X_w_1, X_w_2, X_w_3, X_w_4⟩ := id X_w
        go_wp2_with fail
        refine (implFirstW_any _ _ _ _ _ o_h.has).mono ?_
        rw [HF1.out]
        rintro e v16 ⟨a_x, n_x, c_x, b_x, m_x, d_x, rfl, o_xa, o_xb, ap_x, st⟩
        clear X_w_1 X_w_2 X_w_3 X_w_4
        replace X_w := X_w.below st (boxAt_lt X_w)
        replace o_h := o_h.below st (Nat.le_refl _)
        replace o_o := o_o.below st (Nat.le_refl _)
        replace o_g := o_g.below st (Nat.le_refl _)
        replace o_wa := o_wa.below st (Nat.le_refl _)
        replace o_wb := o_wb.below st (Nat.le_refl _)
        replace o_t := o_t.below st (Nat.le_refl _)
        replace hB := hB.trans (st.mono hB.size)
        clear st
        have st : Below v16.heap.size v16 (v16.alloc (.cells #[.slice a_x n_x c_x, .slice b_x m_x d_x] 27)) := (Below.refl _ _).alloc (Nat.le_refl _) _
        have X_x : BoxAt (v16.alloc (.cells #[.slice a_x n_x c_x, .slice b_x m_x d_x] 27)) v16.heap.size (.slice a_x n_x c_x) (.slice b_x m_x d_x) := boxAt_new _ _ _ _
        obtain ⟨X_w_1, X_w_2, X_w_3, X_w_4⟩ := id X_w
        have X_w_n := X_w.below st (boxAt_lt X_w)
        obtain ⟨X_w_5, X_w_6, X_w_7, X_w_8⟩ := id X_w_n
        go_wp2_with fail
        clear X_w_1 X_w_2 X_w_3 X_w_4
        clear X_w_5 X_w_6 X_w_7 X_w_8
        clear X_w_n
        generalize v16.alloc (.cells #[.slice a_x n_x c_x, .slice b_x m_x d_x] 27) = v17 at *
        replace X_w := X_w.below st (boxAt_lt X_w)
        replace o_h := o_h.below st (Nat.le_refl _)
        replace o_o := o_o.below st (Nat.le_refl _)
        replace o_g := o_g.below st (Nat.le_refl _)
        replace o_wa := o_wa.below st (Nat.le_refl _)
        replace o_wb := o_wb.below st (Nat.le_refl _)
        replace o_t := o_t.below st (Nat.le_refl _)
        replace o_xa := o_xa.below st (Nat.le_refl _)
        replace o_xb := o_xb.below st (Nat.le_refl _)
        replace hB := hB.trans (st.mono hB.size)
        clear st
        obtain ⟨X_w_1, X_w_2, X_w_3, X_w_4⟩ := id X_w
        obtain ⟨X_x_1, X_x_2, X_x_3, X_x_4⟩ := id X_x
        go_wp2_with fail
        refine (implFirstW_any _ _ _ _ _ o_o.has).mono ?_
        rw [HF2.out]
        rintro e v18 ⟨a_y, n_y, c_y, b_y, m_y, d_y, rfl, o_ya, o_yb, ap_y, st⟩
        clear X_w_1 X_w_2 X_w_3 X_w_4 X_x_1 X_x_2 X_x_3 X_x_4
        replace X_w := X_w.below st (boxAt_lt X_w)
        replace X_x := X_x.below st (boxAt_lt X_x)
        replace o_h := o_h.below st (Nat.le_refl _)
        replace o_o := o_o.below st (Nat.le_refl _)
        replace o_g := o_g.below st (Nat.le_refl _)
        replace o_wa := o_wa.below st (Nat.le_refl _)
        replace o_wb := o_wb.below st (Nat.le_refl _)
        replace o_t := o_t.below st (Nat.le_refl _)
        replace o_xa := o_xa.below st (Nat.le_refl _)
        replace o_xb := o_xb.below st (Nat.le_refl _)
        replace hB := hB.trans (st.mono hB.size)
        clear st
        have st : Below v18.heap.size v18 (v18.alloc (.cells #[.slice a_y n_y c_y, .slice b_y m_y d_y] 27)) := (Below.refl _ _).alloc (Nat.le_refl _) _
        have X_y : BoxAt (v18.alloc (.cells #[.slice a_y n_y c_y, .slice b_y m_y d_y] 27)) v18.heap.size (.slice a_y n_y c_y) (.slice b_y m_y d_y) := boxAt_new _ _ _ _
        obtain ⟨X_w_1, X_w_2, X_w_3, X_w_4⟩ := id X_w
        obtain ⟨X_x_1, X_x_2, X_x_3, X_x_4⟩ := id X_x
        have X_w_n := X_w.below st (boxAt_lt X_w)
        obtain ⟨X_w_5, X_w_6, X_w_7, X_w_8⟩ := id X_w_n
        have X_x_n := X_x.below st (boxAt_lt X_x)
        obtain ⟨X_x_5, X_x_6, X_x_7, X_x_8⟩ := id X_x_n
        go_wp2_with fail
        clear X_w_1 X_w_2 X_w_3 X_w_4 X_x_1 X_x_2 X_x_3 X_x_4
        clear X_w_5 X_w_6 X_w_7 X_w_8 X_x_5 X_x_6 X_x_7 X_x_8
        clear X_w_n X_x_n
        generalize v18.alloc (.cells #[.slice a_y n_y c_y, .slice b_y m_y d_y] 27) = v19 at *
        replace X_w := X_w.below st (boxAt_lt X_w)
        replace X_x := X_x.below st (boxAt_lt X_x)
        replace o_h := o_h.below st (Nat.le_refl _)
        replace o_o := o_o.below st (Nat.le_refl _)
        replace o_g := o_g.below st (Nat.le_refl _)
        replace o_wa := o_wa.below st (Nat.le_refl _)
        replace o_wb := o_wb.below st (Nat.le_refl _)
        replace o_t := o_t.below st (Nat.le_refl _)
        replace o_xa := o_xa.below st (Nat.le_refl _)
        replace o_xb := o_xb.below st (Nat.le_refl _)
        replace o_ya := o_ya.below st (Nat.le_refl _)
        replace o_yb := o_yb.below st (Nat.le_refl _)
        replace hB := hB.trans (st.mono hB.size)
        clear st
        obtain ⟨X_w_1, X_w_2, X_w_3, X_w_4⟩ := id X_w
        obtain ⟨X_x_1, X_x_2, X_x_3, X_x_4⟩ := id X_x
        obtain ⟨X_y_1, X_y_2, X_y_3, X_y_4⟩ := id X_y
        go_wp2_with fail
        refine (wSame_any _ _ _ _ _ _ _ _ _ o_t.has o_h.has).mono ?_
        rintro e v20 ⟨rfl, q⟩
        clear X_w_1 X_w_2 X_w_3 X_w_4 X_x_1 X_x_2 X_x_3 X_x_4 X_y_1 X_y_2 X_y_3 X_y_4
        have st : Below v19.heap.size v19 v20 := q.below _
        replace X_w := X_w.below st (boxAt_lt X_w)
        replace X_x := X_x.below st (boxAt_lt X_x)
        replace X_y := X_y.below st (boxAt_lt X_y)
        replace o_h := o_h.below st (Nat.le_refl _)
        replace o_o := o_o.below st (Nat.le_refl _)
        replace o_g := o_g.below st (Nat.le_refl _)
        replace o_wa := o_wa.below st (Nat.le_refl _)
        replace o_wb := o_wb.below st (Nat.le_refl _)
        replace o_t := o_t.below st (Nat.le_refl _)
        replace o_xa := o_xa.below st (Nat.le_refl _)
        replace o_xb := o_xb.below st (Nat.le_refl _)
        replace o_ya := o_ya.below st (Nat.le_refl _)
        replace o_yb := o_yb.below st (Nat.le_refl _)
        replace hB := hB.trans (st.mono hB.size)
        clear st
        clear q
        rw [same_self]
        obtain ⟨X_w_1, X_w_2, X_w_3, X_w_4⟩ := id X_w
        obtain ⟨X_x_1, X_x_2, X_x_3, X_x_4⟩ := id X_x
        obtain ⟨X_y_1, X_y_2, X_y_3, X_y_4⟩ := id X_y
        go_wp2_with fail
        refine (wSumX_any _ _ _ _ _ o_h.has (by omega) (fun i hi => HB1.out i (by rw [HLH.out]; exact hi))).mono ?_
        rintro e _ ⟨rfl, rfl⟩
        clear X_w_1 X_w_2 X_w_3 X_w_4 X_x_1 X_x_2 X_x_3 X_x_4 X_y_1 X_y_2 X_y_3 X_y_4
        obtain rfl : n_h = n_o := by have := o_o.len; have := HLZ.out; have := HLH.out; omega
        have hss := neq_self_int (total hs)
        obtain ⟨X_w_1, X_w_2, X_w_3, X_w_4⟩ := id X_w
        obtain ⟨X_x_1, X_x_2, X_x_3, X_x_4⟩ := id X_x
        obtain ⟨X_y_1, X_y_2, X_y_3, X_y_4⟩ := id X_y
        go_wp2_with fail
        refine (wSumX_any _ _ _ _ _ o_o.has (by omega) (fun i hi => HB2.out i (by rw [HLH.out]; exact hi))).mono ?_
        rw [HTO.out]
        rintro e _ ⟨rfl, rfl⟩
        clear X_w_1 X_w_2 X_w_3 X_w_4 X_x_1 X_x_2 X_x_3 X_x_4 X_y_1 X_y_2 X_y_3 X_y_4
        clear hlo
        clear o_t
        obtain ⟨X_w_1, X_w_2, X_w_3, X_w_4⟩ := id X_w
        obtain ⟨X_x_1, X_x_2, X_x_3, X_x_4⟩ := id X_x
        obtain ⟨X_y_1, X_y_2, X_y_3, X_y_4⟩ := id X_y
        go_wp2_with fail
        refine (implTouches_any _ _ _ _ _ _ _ _ _ o_xa.has o_xb.has).mono ?_
        rw [HT1.out]
        rintro e v21 ⟨a_p, n_p, c_p, rfl, o_p, st⟩
        clear X_w_1 X_w_2 X_w_3 X_w_4 X_x_1 X_x_2 X_x_3 X_x_4 X_y_1 X_y_2 X_y_3 X_y_4
        replace X_w := X_w.below st (boxAt_lt X_w)
        replace X_x := X_x.below st (boxAt_lt X_x)
        replace X_y := X_y.below st (boxAt_lt X_y)
        replace o_h := o_h.below st (Nat.le_refl _)
        replace o_o := o_o.below st (Nat.le_refl _)
        replace o_g := o_g.below st (Nat.le_refl _)
        replace o_wa := o_wa.below st (Nat.le_refl _)
        replace o_wb := o_wb.below st (Nat.le_refl _)
        replace o_xa := o_xa.below st (Nat.le_refl _)
        replace o_xb := o_xb.below st (Nat.le_refl _)
        replace o_ya := o_ya.below st (Nat.le_refl _)
        replace o_yb := o_yb.below st (Nat.le_refl _)
        replace hB := hB.trans (st.mono hB.size)
        clear st
        obtain ⟨X_w_1, X_w_2, X_w_3, X_w_4⟩ := id X_w
        obtain ⟨X_x_1, X_x_2, X_x_3, X_x_4⟩ := id X_x
        obtain ⟨X_y_1, X_y_2, X_y_3, X_y_4⟩ := id X_y
        go_wp2_with fail
        refine (implTouches_any _ _ _ _ _ _ _ _ _ o_ya.has o_yb.has).mono ?_
        rw [HT2.out]
        rintro e v22 ⟨a_q, n_q, c_q, rfl, o_q, st⟩
        clear X_w_1 X_w_2 X_w_3 X_w_4 X_x_1 X_x_2 X_x_3 X_x_4 X_y_1 X_y_2 X_y_3 X_y_4
        replace X_w := X_w.below st (boxAt_lt X_w)
        replace X_x := X_x.below st (boxAt_lt X_x)
        replace X_y := X_y.below st (boxAt_lt X_y)
        replace o_h := o_h.below st (Nat.le_refl _)
        replace o_o := o_o.below st (Nat.le_refl _)
        replace o_g := o_g.below st (Nat.le_refl _)
        replace o_wa := o_wa.below st (Nat.le_refl _)
        replace o_wb := o_wb.below st (Nat.le_refl _)
        replace o_xa := o_xa.below st (Nat.le_refl _)
        replace o_xb := o_xb.below st (Nat.le_refl _)
        replace o_ya := o_ya.below st (Nat.le_refl _)
        replace o_yb := o_yb.below st (Nat.le_refl _)
        replace o_p := o_p.below st (Nat.le_refl _)
        replace hB := hB.trans (st.mono hB.size)
        clear st
        clear X_x ap_x
        clear X_y ap_y
        clear X_w ap_w
        clear o_xa o_xb o_ya o_yb o_wa o_wb
        clear o_g o_o
        have hlp : ts.length = n_p := o_p.len
        obtain rfl : n_q = n_p := by have h1 : us.length = n_q := o_q.len; have h2 := HUL.out; omega
        have hnn := neq_self_int (n_q : Int)
        have hpl := o_p.has.le
        go_wp2_with fail
        go_loopw [181] (fun i wr => ∃ k : Nat, k ≤ n_q ∧ i = .int .i64 (k : Int) ∧ Below v22.heap.size v22 wr) (fun i _ => n_q - (intOf i).toNat)
        case atStart => exact ⟨0, Nat.zero_le _, rfl, Below.refl _ _⟩
        case round =>
          obtain ⟨k, hk, rfl, hq⟩ := hrel
          have st := hq
          replace o_h := o_h.below st (Nat.le_refl _)
          replace o_p := o_p.below st (Nat.le_refl _)
          replace o_q := o_q.below st (Nat.le_refl _)
          replace hB := hB.trans (st.mono hB.size)
          clear st
          by_cases hlt : k < n_q
          · skip
            obtain ⟨g1, r1, r2⟩ := HTU.out k (by omega)
            rw [hlp, HLH.out] at g1
            obtain ⟨bp, op, rfl, hbp, hcp⟩ := o_p.has.2.2.2.2 (by omega)
            have hc1 := hcp k hlt
            obtain ⟨bq, oq, rfl, hbq, hcq⟩ := o_q.has.2.2.2.2 (by omega)
            have hc2 := hcq (n_q - 1 - k) (by omega)
            rw [g1] at hc2
            generalize nth ts k = x at *
            have hw1 : IntKind.i64.wrap ((n_q : Int) - 1) = (n_q : Int) - 1 := by rw [IntKind.wrap_i64]; omega
            have hw2 : IntKind.i64.wrap ((n_q : Int) - 1 - (k : Int)) = ((n_q - 1 - k : Nat) : Int) := by rw [IntKind.wrap_i64]; omega
            have hw3 : IntKind.i64.wrap ((n_h : Int) - x) = (n_h : Int) - x := by rw [IntKind.wrap_i64]; omega
            have hne := neq_self_int ((n_h : Int) - x)
            clear hcp hcq g1
            go_wp2_with fail
            go_roundw
            case rel => exact ⟨k + 1, by omega, by go_num, hq⟩
            case measure => simp [intOf]; omega
          · skip
            obtain rfl : k = n_q := by omega
            clear hq
            go_wp2_with fail
            go_ret
            exact ⟨rfl, hB⟩
    · skip
      obtain ⟨rfl, f2⟩ := HFX.out rfl
      have HWB := hid f2
      clear f2
      obtain ⟨X_w_1, X_w_2, X_w_3, X_w_4⟩ := id X_w
      go_wp2_with fail
      refine (implIsWalk_any _ _ _ _ _ _ _ _ _ o_wa.has o_wb.has).mono ?_
      rw [HWB.out]
      rintro e v12 ⟨rfl, st⟩
      clear X_w_1 X_w_2 X_w_3 X_w_4
      replace X_w := X_w.below st (boxAt_lt X_w)
      replace o_h := o_h.below st (Nat.le_refl _)
      replace o_o := o_o.below st (Nat.le_refl _)
      replace o_g := o_g.below st (Nat.le_refl _)
      replace o_wa := o_wa.below st (Nat.le_refl _)
      replace o_wb := o_wb.below st (Nat.le_refl _)
      replace hB := hB.trans (st.mono hB.size)
      clear st
      obtain ⟨X_w_1, X_w_2, X_w_3, X_w_4⟩ := id X_w
      go_wp2_with fail
      refine (wSame_any _ _ _ _ _ _ _ _ _ o_wa.has o_g.has).mono ?_
      rintro e v13 ⟨rfl, q⟩
      clear X_w_1 X_w_2 X_w_3 X_w_4
      have st : Below v12.heap.size v12 v13 := q.below _
      replace X_w := X_w.below st (boxAt_lt X_w)
      replace o_h := o_h.below st (Nat.le_refl _)
      replace o_o := o_o.below st (Nat.le_refl _)
      replace o_g := o_g.below st (Nat.le_refl _)
      replace o_wa := o_wa.below st (Nat.le_refl _)
      replace o_wb := o_wb.below st (Nat.le_refl _)
      replace hB := hB.trans (st.mono hB.size)
      clear st
      clear q
      rw [same_self]
      obtain ⟨X_w_1, X_w_2, X_w_3, X_w_4⟩ := id X_w
      go_wp2_with fail
      refine (drawBounceOf_any b m cap' _ (HM.out.grow hB (Nat.le_refl _))).mono ?_
      rintro e v14 ⟨a_b, n_b, c_b, bs, rfl, o_b, hb9, hwi, st⟩
      clear X_w_1 X_w_2 X_w_3 X_w_4
      replace X_w := X_w.below st (boxAt_lt X_w)
      replace o_h := o_h.below st (Nat.le_refl _)
      replace o_o := o_o.below st (Nat.le_refl _)
      replace o_g := o_g.below st (Nat.le_refl _)
      replace o_wa := o_wa.below st (Nat.le_refl _)
      replace o_wb := o_wb.below st (Nat.le_refl _)
      replace hB := hB.trans (st.mono hB.size)
      clear st
      clear hwi
      obtain ⟨⟨y, two⟩, f1⟩ : ∃ r, bounceOf bs = r := ⟨_, rfl⟩
      have HBO := hid f1
      have h22 : (two != two) = false := by cases two <;> rfl
      have hyy := neq_self_int y
      clear f1
      obtain ⟨X_w_1, X_w_2, X_w_3, X_w_4⟩ := id X_w
      go_wp2_with fail
      refine (implBounce_any _ _ _ _ _ o_b.has).mono ?_
      rw [HBO.out]
      rintro e v15 ⟨rfl, st⟩
      clear X_w_1 X_w_2 X_w_3 X_w_4
      replace X_w := X_w.below st (boxAt_lt X_w)
      replace o_h := o_h.below st (Nat.le_refl _)
      replace o_o := o_o.below st (Nat.le_refl _)
      replace o_g := o_g.below st (Nat.le_refl _)
      replace o_wa := o_wa.below st (Nat.le_refl _)
      replace o_wb := o_wb.below st (Nat.le_refl _)
      replace o_b := o_b.below st (Nat.le_refl _)
      replace hB := hB.trans (st.mono hB.size)
      clear st
      obtain ⟨X_w_1, X_w_2, X_w_3, X_w_4⟩ := id X_w
      go_wp2_with fail
      refine (specBounce_any _ _ _ _ _ o_b.has).mono ?_
      rw [HBO.out]
      rintro e v16 ⟨rfl, st⟩
      clear X_w_1 X_w_2 X_w_3 X_w_4
      replace X_w := X_w.below st (boxAt_lt X_w)
      replace o_h := o_h.below st (Nat.le_refl _)
      replace o_o := o_o.below st (Nat.le_refl _)
      replace o_g := o_g.below st (Nat.le_refl _)
      replace o_wa := o_wa.below st (Nat.le_refl _)
      replace o_wb := o_wb.below st (Nat.le_refl _)
      replace o_b := o_b.below st (Nat.le_refl _)
      replace hB := hB.trans (st.mono hB.size)
      clear st
      clear o_b
      cases ok
      · skip
        obtain ⟨X_w_1, X_w_2, X_w_3, X_w_4⟩ := id X_w
        go_wp2_with fail
        go_ret
        exact ⟨rfl, hB⟩
      · skip
        obtain ⟨ps, ts, us, f1, f2, f3, f4, f5, f6, f7, f8, f9, f10, f11, f12⟩ := HF.out rfl
        have HTB := hid f1
        have HF1 := hid f2
        have HF2 := hid f3
        have HTO := hid f4
        have HT1 := hid f5
        have HT2 := hid f6
        have HUL := hid f7
        have HTU := hid f8
        have HB1 := hid f11
        have HB2 := hid f12
        have HLZ := hid f10
        clear f1 f2 f3 f4 f5 f6 f7 f8 f11 f12 f10
        rw [HLH.out] at f9
        have hlo := o_o.len
        obtain ⟨X_w_1, X_w_2, X_w_3, X_w_4⟩ := id X_w
        go_wp2_with fail
        refine (implTurnH_any _ _ _ _ _ o_o.has).mono ?_
        rw [HTB.out]
        rintro e v17 ⟨a_t, n_t, c_t, rfl, o_t, st⟩
        clear X_w_1 X_w_2 X_w_3 X_w_4
        replace X_w := X_w.below st (boxAt_lt X_w)
        replace o_h := o_h.below st (Nat.le_refl _)
        replace o_o := o_o.below st (Nat.le_refl _)
        replace o_g := o_g.below st (Nat.le_refl _)
        replace o_wa := o_wa.below st (Nat.le_refl _)
        replace o_wb := o_wb.below st (Nat.le_refl _)
        replace hB := hB.trans (st.mono hB.size)
        clear st
        obtain ⟨X_w_1, X_w_2, X_w_3, X_w_4⟩ := id X_w
        go_wp2_with fail
        refine (implFirstW_any _ _ _ _ _ o_h.has).mono ?_
        rw [HF1.out]
        rintro e v18 ⟨a_x, n_x, c_x, b_x, m_x, d_x, rfl, o_xa, o_xb, ap_x, st⟩
        clear X_w_1 X_w_2 X_w_3 X_w_4
        replace X_w := X_w.below st (boxAt_lt X_w)
        replace o_h := o_h.below st (Nat.le_refl _)
        replace o_o := o_o.below st (Nat.le_refl _)
        replace o_g := o_g.below st (Nat.le_refl _)
        replace o_wa := o_wa.below st (Nat.le_refl _)
        replace o_wb := o_wb.below st (Nat.le_refl _)
        replace o_t := o_t.below st (Nat.le_refl _)
        replace hB := hB.trans (st.mono hB.size)
        clear st
        have st : Below v18.heap.size v18 (v18.alloc (.cells #[.slice a_x n_x c_x, .slice b_x m_x d_x] 27)) := (Below.refl _ _).alloc (Nat.le_refl _) _
        have X_x : BoxAt (v18.alloc (.cells #[.slice a_x n_x c_x, .slice b_x m_x d_x] 27)) v18.heap.size (.slice a_x n_x c_x) (.slice b_x m_x d_x) := boxAt_new _ _ _ _
        obtain ⟨X_w_1, X_w_2, X_w_3, X_w_4⟩ := id X_w
        have X_w_n := X_w.below st (boxAt_lt X_w)
        obtain ⟨X_w_5, X_w_6, X_w_7, X_w_8⟩ := id X_w_n
        go_wp2_with fail
        clear X_w_1 X_w_2 X_w_3 X_w_4
        clear X_w_5 X_w_6 X_w_7 X_w_8
        clear X_w_n
        generalize v18.alloc (.cells #[.slice a_x n_x c_x, .slice b_x m_x d_x] 27) = v19 at *
        replace X_w := X_w.below st (boxAt_lt X_w)
        replace o_h := o_h.below st (Nat.le_refl _)
        replace o_o := o_o.below st (Nat.le_refl _)
        replace o_g := o_g.below st (Nat.le_refl _)
        replace o_wa := o_wa.below st (Nat.le_refl _)
        replace o_wb := o_wb.below st (Nat.le_refl _)
        replace o_t := o_t.below st (Nat.le_refl _)
        replace o_xa := o_xa.below st (Nat.le_refl _)
        replace o_xb := o_xb.below st (Nat.le_refl _)
        replace hB := hB.trans (st.mono hB.size)
        clear st
        obtain ⟨X_w_1, X_w_2, X_w_3, X_w_4⟩ := id X_w
        obtain ⟨X_x_1, X_x_2, X_x_3, X_x_4⟩ := id X_x
        go_wp2_with fail
        refine (implFirstW_any _ _ _ _ _ o_o.has).mono ?_
        rw [HF2.out]
        rintro e v20 ⟨a_y, n_y, c_y, b_y, m_y, d_y, rfl, o_ya, o_yb, ap_y, st⟩
        clear X_w_1 X_w_2 X_w_3 X_w_4 X_x_1 X_x_2 X_x_3 X_x_4
        replace X_w := X_w.below st (boxAt_lt X_w)
        replace X_x := X_x.below st (boxAt_lt X_x)
        replace o_h := o_h.below st (Nat.le_refl _)
        replace o_o := o_o.below st (Nat.le_refl _)
        replace o_g := o_g.below st (Nat.le_refl _)
        replace o_wa := o_wa.below st (Nat.le_refl _)
        replace o_wb := o_wb.below st (Nat.le_refl _)
        replace o_t := o_t.below st (Nat.le_refl _)
        replace o_xa := o_xa.below st (Nat.le_refl _)
        replace o_xb := o_xb.below st (Nat.le_refl _)
        replace hB := hB.trans (st.mono hB.size)
        clear st
        have st : Below v20.heap.size v20 (v20.alloc (.cells #[.slice a_y n_y c_y, .slice b_y m_y d_y] 27)) := (Below.refl _ _).alloc (Nat.le_refl _) _
        have X_y : BoxAt (v20.alloc (.cells #[.slice a_y n_y c_y, .slice b_y m_y d_y] 27)) v20.heap.size (.slice a_y n_y c_y) (.slice b_y m_y d_y) := boxAt_new _ _ _ _
        obtain ⟨X_w_1, X_w_2, X_w_3, X_w_4⟩ := id X_w
        obtain ⟨X_x_1, X_x_2, X_x_3, X_x_4⟩ := id X_x
        have X_w_n := X_w.below st (boxAt_lt X_w)
        obtain ⟨X_w_5, X_w_6, X_w_7, X_w_8⟩ := id X_w_n
        have X_x_n := X_x.below st (boxAt_lt X_x)
        obtain ⟨X_x_5, X_x_6, X_x_7, X_x_8⟩ := id X_x_n
        go_wp2_with fail
        clear X_w_1 X_w_2 X_w_3 X_w_4 X_x_1 X_x_2 X_x_3 X_x_4
        clear X_w_5 X_w_6 X_w_7 X_w_8 X_x_5 X_x_6 X_x_7 X_x_8
        clear X_w_n X_x_n
        generalize v20.alloc (.cells #[.slice a_y n_y c_y, .slice b_y m_y d_y] 27) = v21 at *
        replace X_w := X_w.below st (boxAt_lt X_w)
        replace X_x := X_x.below st (boxAt_lt X_x)
        replace o_h := o_h.below st (Nat.le_refl _)
        replace o_o := o_o.below st (Nat.le_refl _)
        replace o_g := o_g.below st (Nat.le_refl _)
        replace o_wa := o_wa.below st (Nat.le_refl _)
        replace o_wb := o_wb.below st (Nat.le_refl _)
        replace o_t := o_t.below st (Nat.le_refl _)
        replace o_xa := o_xa.below st (Nat.le_refl _)
        replace o_xb := o_xb.below st (Nat.le_refl _)
        replace o_ya := o_ya.below st (Nat.le_refl _)
        replace o_yb := o_yb.below st (Nat.le_refl _)
        replace hB := hB.trans (st.mono hB.size)
        clear st
        obtain ⟨X_w_1, X_w_2, X_w_3, X_w_4⟩ := id X_w
        obtain ⟨X_x_1, X_x_2, X_x_3, X_x_4⟩ := id X_x
        obtain ⟨X_y_1, X_y_2, X_y_3, X_y_4⟩ := id X_y
        go_wp2_with fail
        refine (wSame_any _ _ _ _ _ _ _ _ _ o_t.has o_h.has).mono ?_
        rintro e v22 ⟨rfl, q⟩
        clear X_w_1 X_w_2 X_w_3 X_w_4 X_x_1 X_x_2 X_x_3 X_x_4 X_y_1 X_y_2 X_y_3 X_y_4
        have st : Below v21.heap.size v21 v22 := q.below _
        replace X_w := X_w.below st (boxAt_lt X_w)
        replace X_x := X_x.below st (boxAt_lt X_x)
        replace X_y := X_y.below st (boxAt_lt X_y)
        replace o_h := o_h.below st (Nat.le_refl _)
        replace o_o := o_o.below st (Nat.le_refl _)
        replace o_g := o_g.below st (Nat.le_refl _)
        replace o_wa := o_wa.below st (Nat.le_refl _)
        replace o_wb := o_wb.below st (Nat.le_refl _)
        replace o_t := o_t.below st (Nat.le_refl _)
        replace o_xa := o_xa.below st (Nat.le_refl _)
        replace o_xb := o_xb.below st (Nat.le_refl _)
        replace o_ya := o_ya.below st (Nat.le_refl _)
        replace o_yb := o_yb.below st (Nat.le_refl _)
        replace hB := hB.trans (st.mono hB.size)
        clear st
        clear q
        rw [same_self]
        obtain ⟨X_w_1, X_w_2, X_w_3, X_w_4⟩ := id X_w
        obtain ⟨X_x_1, X_x_2, X_x_3, X_x_4⟩ := id X_x
        obtain ⟨X_y_1, X_y_2, X_y_3, X_y_4⟩ := id X_y
        go_wp2_with fail
        refine (wSumX_any _ _ _ _ _ o_h.has (by omega) (fun i hi => HB1.out i (by rw [HLH.out]; exact hi))).mono ?_
        rintro e _ ⟨rfl, rfl⟩
        clear X_w_1 X_w_2 X_w_3 X_w_4 X_x_1 X_x_2 X_x_3 X_x_4 X_y_1 X_y_2 X_y_3 X_y_4
        obtain rfl : n_h = n_o := by have := o_o.len; have := HLZ.out; have := HLH.out; omega
        have hss := neq_self_int (total hs)
        obtain ⟨X_w_1, X_w_2, X_w_3, X_w_4⟩ := id X_w
        obtain ⟨X_x_1, X_x_2, X_x_3, X_x_4⟩ := id X_x
        obtain ⟨X_y_1, X_y_2, X_y_3, X_y_4⟩ := id X_y
        go_wp2_with fail
        refine (wSumX_any _ _ _ _ _ o_o.has (by omega) (fun i hi => HB2.out i (by rw [HLH.out]; exact hi))).mono ?_
        rw [HTO.out]
        rintro e _ ⟨rfl, rfl⟩
        clear X_w_1 X_w_2 X_w_3 X_w_4 X_x_1 X_x_2 X_x_3 X_x_4 X_y_1 X_y_2 X_y_3 X_y_4
        clear hlo
        clear o_t
        obtain ⟨X_w_1, X_w_2, X_w_3, X_w_4⟩ := id X_w
        obtain ⟨X_x_1, X_x_2, X_x_3, X_x_4⟩ := id X_x
        obtain ⟨X_y_1, X_y_2, X_y_3, X_y_4⟩ := id X_y
        go_wp2_with fail
        refine (implTouches_any _ _ _ _ _ _ _ _ _ o_xa.has o_xb.has).mono ?_
        rw [HT1.out]
        rintro e v23 ⟨a_p, n_p, c_p, rfl, o_p, st⟩
        clear X_w_1 X_w_2 X_w_3 X_w_4 X_x_1 X_x_2 X_x_3 X_x_4 X_y_1 X_y_2 X_y_3 X_y_4
        replace X_w := X_w.below st (boxAt_lt X_w)
        replace X_x := X_x.below st (boxAt_lt X_x)
        replace X_y := X_y.below st (boxAt_lt X_y)
        replace o_h := o_h.below st (Nat.le_refl _)
        replace o_o := o_o.below st (Nat.le_refl _)
        replace o_g := o_g.below st (Nat.le_refl _)
        replace o_wa := o_wa.below st (Nat.le_refl _)
        replace o_wb := o_wb.below st (Nat.le_refl _)
        replace o_xa := o_xa.below st (Nat.le_refl _)
        replace o_xb := o_xb.below st (Nat.le_refl _)
        replace o_ya := o_ya.below st (Nat.le_refl _)
        replace o_yb := o_yb.below st (Nat.le_refl _)
        replace hB := hB.trans (st.mono hB.size)
        clear st
        obtain ⟨X_w_1, X_w_2, X_w_3, X_w_4⟩ := id X_w
        obtain ⟨X_x_1, X_x_2, X_x_3, X_x_4⟩ := id X_x
        obtain ⟨X_y_1, X_y_2, X_y_3, X_y_4⟩ := id X_y
        go_wp2_with fail
        refine (implTouches_any _ _ _ _ _ _ _ _ _ o_ya.has o_yb.has).mono ?_
        rw [HT2.out]
        rintro e v24 ⟨a_q, n_q, c_q, rfl, o_q, st⟩
        clear X_w_1 X_w_2 X_w_3 X_w_4 X_x_1 X_x_2 X_x_3 X_x_4 X_y_1 X_y_2 X_y_3 X_y_4
        replace X_w := X_w.below st (boxAt_lt X_w)
        replace X_x := X_x.below st (boxAt_lt X_x)
        replace X_y := X_y.below st (boxAt_lt X_y)
        replace o_h := o_h.below st (Nat.le_refl _)
        replace o_o := o_o.below st (Nat.le_refl _)
        replace o_g := o_g.below st (Nat.le_refl _)
        replace o_wa := o_wa.below st (Nat.le_refl _)
        replace o_wb := o_wb.below st (Nat.le_refl _)
        replace o_xa := o_xa.below st (Nat.le_refl _)
        replace o_xb := o_xb.below st (Nat.le_refl _)
        replace o_ya := o_ya.below st (Nat.le_refl _)
        replace o_yb := o_yb.below st (Nat.le_refl _)
        replace o_p := o_p.below st (Nat.le_refl _)
        replace hB := hB.trans (st.mono hB.size)
        clear st
        clear X_x ap_x
        clear X_y ap_y
        clear X_w ap_w
        clear o_xa o_xb o_ya o_yb o_wa o_wb
        clear o_g o_o
        have hlp : ts.length = n_p := o_p.len
        obtain rfl : n_q = n_p := by have h1 : us.length = n_q := o_q.len; have h2 := HUL.out; omega
        have hnn := neq_self_int (n_q : Int)
        have hpl := o_p.has.le
        go_wp2_with fail
        go_loopw [181] (fun i wr => ∃ k : Nat, k ≤ n_q ∧ i = .int .i64 (k : Int) ∧ Below v24.heap.size v24 wr) (fun i _ => n_q - (intOf i).toNat)
        case atStart => exact ⟨0, Nat.zero_le _, rfl, Below.refl _ _⟩
        case round =>
          obtain ⟨k, hk, rfl, hq⟩ := hrel
          have st := hq
          replace o_h := o_h.below st (Nat.le_refl _)
          replace o_p := o_p.below st (Nat.le_refl _)
          replace o_q := o_q.below st (Nat.le_refl _)
          replace hB := hB.trans (st.mono hB.size)
          clear st
          by_cases hlt : k < n_q
          · skip
            obtain ⟨g1, r1, r2⟩ := HTU.out k (by omega)
            rw [hlp, HLH.out] at g1
            obtain ⟨bp, op, rfl, hbp, hcp⟩ := o_p.has.2.2.2.2 (by omega)
            have hc1 := hcp k hlt
            obtain ⟨bq, oq, rfl, hbq, hcq⟩ := o_q.has.2.2.2.2 (by omega)
            have hc2 := hcq (n_q - 1 - k) (by omega)
            rw [g1] at hc2
            generalize nth ts k = x at *
            have hw1 : IntKind.i64.wrap ((n_q : Int) - 1) = (n_q : Int) - 1 := by rw [IntKind.wrap_i64]; omega
            have hw2 : IntKind.i64.wrap ((n_q : Int) - 1 - (k : Int)) = ((n_q - 1 - k : Nat) : Int) := by rw [IntKind.wrap_i64]; omega
            have hw3 : IntKind.i64.wrap ((n_h : Int) - x) = (n_h : Int) - x := by rw [IntKind.wrap_i64]; omega
            have hne := neq_self_int ((n_h : Int) - x)
            clear hcp hcq g1
            go_wp2_with fail
            go_roundw
            case rel => exact ⟨k + 1, by omega, by go_num, hq⟩
            case measure => simp [intOf]; omega
          · skip
            obtain rfl : k = n_q := by omega
            clear hq
            go_wp2_with fail
            go_ret
            exact ⟨rfl, hB⟩
end Go.Proofs.Ytakadjhbomggbaa


/- Texts of lists of small numbers: as the model writes them, and as the program does. -/
import Derived.Lib.Join
import Derived.Test.YtakadjhbomggbabDoorStrs
import Derived.Test.YtakadjhbomggbabDoorSpecC
import Derived.Test.YtakadjhbomggbabDoorImplC
import Derived.Test.YtakadjhbomggbabDoorShelf
namespace Go.Proofs.YtakadjhbomggbabDoor
open Go.RowKit

/-- A byte string out of its letters: a name of its own. -/
def bs (l : List UInt8) : ByteArray := ⟨l.toArray⟩
theorem bs_def (l : List UInt8) : (⟨l.toArray⟩ : ByteArray) = bs l := rfl
theorem bs_append (l m : List UInt8) : bs l ++ bs m = bs (l ++ m) := by
  apply ByteArray.ext
  simp [bs, ByteArray.data_append]
theorem bs_data (l : List UInt8) : (bs l).data.toList = l := by simp [bs]
theorem bs_inj {l m : List UInt8} (h : bs l = bs m) : l = m := by rw [← bs_data l, ← bs_data m, h]
theorem bs_size (l : List UInt8) : (bs l).size = l.length := by simp [bs, ByteArray.size]

/-- A number in decimal. -/
def dig (x : Int) : List UInt8 := Go.Lib.decDigits x.toNat
/-- Numbers in decimal, with blanks between them. -/
def txt (xs : List Int) : List UInt8 := Go.Lib.join (xs.map dig) [32]
theorem txt_nil : txt [] = [] := rfl
theorem txt_one (x : Int) : txt [x] = dig x := by simp [txt, Go.Lib.join_one]
theorem txt_snoc {xs : List Int} (h : 0 < xs.length) (x : Int) : txt (xs ++ [x]) = txt xs ++ [32] ++ dig x := by
  cases xs with
  | nil => simp at h
  | cons y r => simp [txt, Go.Lib.join_cons, Go.Lib.joinTail]
theorem txt_succ {xs : List Int} {k : Nat} (hk : k < xs.length) (h0 : 0 < k) : txt (xs.take (k + 1)) = txt (xs.take k) ++ [32] ++ dig (nth xs k) := by
  rw [take_succ_nth hk, txt_snoc (by simp; omega)]
theorem txt_first {xs : List Int} (hk : 0 < xs.length) : txt (xs.take 1) = dig (nth xs 0) := by
  rw [take_succ_nth hk]; simp [txt_one]

/-- One byte, made a string: at the world of its making. -/
theorem one_byte (W : World) (x : Int) : (convert 62 9 (.slice (some ⟨W.heap.size, 0, none⟩) 1 1)).run Tryd.prog (W.alloc (.cells #[.int .u8 x] 5)) = .ok (.string (bs [UInt8.ofNat x.toNat])) (W.alloc (.cells #[.int .u8 x] 5)) :=
  run_convert_bytes_arg (W.alloc (.cells #[.int .u8 x] 5)) 62 5 Tryd.underlying62 Tryd.underlying5 W.heap.size 0 1 1 [x] rfl (fun i hi => by
    obtain rfl : i = 0 := by omega
    simp) 9 Tryd.underlying9
/-- .. and behind what leaves it alone. -/
theorem one_byte_later {W w1 : World} {x : Int} (hb : Below (W.alloc (.cells #[.int .u8 x] 5)).heap.size (W.alloc (.cells #[.int .u8 x] 5)) w1) :
    (convert 62 9 (.slice (some ⟨W.heap.size, 0, none⟩) 1 1)).run Tryd.prog w1 = .ok (.string (bs [UInt8.ofNat x.toNat])) w1 :=
  run_convert_bytes_arg w1 62 5 Tryd.underlying62 Tryd.underlying5 W.heap.size 0 1 1 [x] rfl (fun i hi => by
    obtain rfl : i = 0 := by omega
    rw [hb.cell (p := ⟨W.heap.size, 0 + 0, none⟩) (by simp)]
    simp) 9 Tryd.underlying9

theorem dig_small {n : Int} (h0 : 0 ≤ n) (h1 : n < 10) : dig n = [UInt8.ofNat (48 + n).toNat] := by
  unfold dig
  rw [Go.Lib.decDigits_one (by omega), show (48 + n).toNat = 48 + n.toNat by omega]
theorem dig_big {n : Int} (h1 : 10 ≤ n) : dig n = dig (n / 10) ++ [UInt8.ofNat (48 + n % 10).toNat] := by
  unfold dig
  rw [Go.Lib.decDigits, dif_neg (by omega), show (n / 10).toNat = n.toNat / 10 by omega, show (48 + n % 10).toNat = 48 + n.toNat % 10 by omega]

set_option maxRecDepth 100000 in
set_option maxHeartbeats 800000 in
theorem l1Num_small (n : Int) (w : World) (h0 : 0 ≤ n) (hlt : n < 10) :
    Calls Tryd.prog 28 #[.int .i64 n] w fun e w' => e = .returned (.string (bs (dig n))) ∧ Below w.heap.size w w' := by
  have HD := hid (dig_small h0 hlt)
  have kb := one_byte
  go_enter Tryd.func28, Tryd.ntmps28
  go_wp2_with fail
  go_ret
  exact ⟨by rw [HD.out]; rfl, (Below.refl _ _).alloc (Nat.le_refl _) _⟩

/-- Numbers of one digit. -/
def Digits (xs : List Int) : Prop := ∀ i, i < xs.length → 0 ≤ nth xs i ∧ nth xs i < 10

theorem dig_len {x : Int} (h0 : 0 ≤ x) (h1 : x < 10) : (bs (dig x)).size ≤ 1 := by rw [bs_size, dig_small h0 h1]; simp
theorem txt_len {xs : List Int} (hd : Digits xs) : ∀ k, k ≤ xs.length → (bs (txt (xs.take k))).size ≤ 2 * k
  | 0, _ => by simp [txt_nil, bs_size]
  | k + 1, hk => by
    obtain ⟨h0, h1⟩ := hd k (by omega)
    have h2 := dig_len h0 h1
    have ih := txt_len hd k (by omega)
    rw [bs_size] at h2 ih ⊢
    by_cases hz : k = 0
    · subst hz; rw [txt_first (by omega)]; omega
    · rw [txt_succ (by omega) (by omega)]; simp; omega

end Go.Proofs.YtakadjhbomggbabDoor

/- Plain arithmetic on folded numbers, low bits and bit operations; nothing of the program. Bytes: numbers as bytes, chains, texts; nothing of the program. -/
import Derived.WalkKit
import Derived.Laws.BytesArg
import Derived.Below
section
namespace Go.Proofs.Ytnekiiahgidkoaa.M
open Go.RowKit
set_option linter.unusedVariables false

def foldI (a : Int) : Int := if 0 ≤ a then 2 * a else -2 * a - 1
def unfoldI (n : Int) : Int := if n % 2 = 0 then n / 2 else -(n / 2) - 1
/-- The low n bits. -/
def lowI (a n : Int) : Int := a % 2 ^ (min n 64).toNat
/-- The low n bits with a sign. -/
def signedI (a n : Int) : Int :=
  let m := (min (max n 1) 64).toNat
  if a % 2 ^ m < 2 ^ (m - 1) then a % 2 ^ m else a % 2 ^ m - 2 ^ m

theorem ret_int {k : IntKind} {a b : Int} (h : a = b) : Ending.returned (.int k a) = .returned (.int k b) := by rw [h]
theorem ret_str {a b : ByteArray} (h : a = b) : Ending.returned (.string a) = .returned (.string b) := by rw [h]

theorem val_int {k : IntKind} {a b : Int} (h : a = b) : Value.int k a = .int k b := by rw [h]
theorem val_str {a b : ByteArray} (h : a = b) : Value.string a = .string b := by rw [h]
theorem ret_two {a b c d : Value} (h1 : a = c) (h2 : b = d) : Ending.returned (.tuple #[a, b]) = .returned (.tuple #[c, d]) := by rw [h1, h2]
theorem ret_three {a b c d e f : Value} (h1 : a = d) (h2 : b = e) (h3 : c = f) : Ending.returned (.tuple #[a, b, c]) = .returned (.tuple #[d, e, f]) := by rw [h1, h2, h3]

theorem xor_ones (x : Nat) (h : x < 18446744073709551616) : x ^^^ 18446744073709551615 = 18446744073709551615 - x := by
  have e : (BitVec.ofNat 64 x ^^^ BitVec.allOnes 64) = ~~~ (BitVec.ofNat 64 x) := BitVec.xor_allOnes
  have e2 := congrArg BitVec.toNat e
  rw [BitVec.toNat_xor, BitVec.toNat_not, BitVec.toNat_allOnes, BitVec.toNat_ofNat, Nat.mod_eq_of_lt h] at e2
  exact e2
theorem xor_ones32 (x : Nat) (h : x < 4294967296) : x ^^^ 4294967295 = 4294967295 - x := by
  have e : (BitVec.ofNat 32 x ^^^ BitVec.allOnes 32) = ~~~ (BitVec.ofNat 32 x) := BitVec.xor_allOnes
  have e2 := congrArg BitVec.toNat e
  rw [BitVec.toNat_xor, BitVec.toNat_not, BitVec.toNat_allOnes, BitVec.toNat_ofNat, Nat.mod_eq_of_lt h] at e2
  exact e2

theorem fold_bits (a : Int) (h0 : -9223372036854775808 ≤ a) (h1 : a ≤ 9223372036854775807) :
    bits BinOp.xor IntKind.u64 (IntKind.u64.wrap (IntKind.u64.wrap a * 2)) (IntKind.u64.wrap (a / 9223372036854775808)) = foldI a := by
  rw [IntKind.wrap_u64, IntKind.wrap_u64, IntKind.wrap_u64, u64_xor _ _ (by omega) (by omega) (by omega) (by omega)]
  unfold foldI
  by_cases h : 0 ≤ a
  · rw [if_pos h, show (a / 9223372036854775808 % 18446744073709551616).toNat = 0 from by omega, Nat.xor_zero]; omega
  · rw [if_neg h, show (a / 9223372036854775808 % 18446744073709551616).toNat = 18446744073709551615 from by omega, xor_ones _ (by omega)]; omega

theorem unfold_bits (a : Int) (h0 : 0 ≤ a) (h1 : a < 18446744073709551616) :
    wrap64 (bits BinOp.xor IntKind.u64 (a / 2) (IntKind.u64.wrap (-bits BinOp.and IntKind.u64 a 1))) = unfoldI a := by
  have e1 : bits BinOp.and IntKind.u64 a 1 = a % 2 := by
    rw [u64_and _ _ h0 h1 (by omega) (by omega)]
    show ((a.toNat &&& 1 : Nat) : Int) = _
    rw [Nat.and_one_is_mod]; omega
  rw [e1, IntKind.wrap_u64, u64_xor _ _ (by omega) (by omega) (by omega) (by omega)]
  unfold unfoldI wrap64
  by_cases h : a % 2 = 0
  · rw [if_pos h, show (-(a % 2) % 18446744073709551616).toNat = 0 from by omega, Nat.xor_zero]; omega
  · rw [if_neg h, show (-(a % 2) % 18446744073709551616).toNat = 18446744073709551615 from by omega, xor_ones _ (by omega)]; omega

theorem fold_unfold (a : Int) (h0 : 0 ≤ a) : foldI (unfoldI a) = a := by
  unfold foldI unfoldI; split <;> split <;> omega
theorem unfold_fold (a : Int) : unfoldI (foldI a) = a := by
  unfold foldI unfoldI; split <;> split <;> omega
theorem fold_in (a : Int) (h0 : -9223372036854775808 ≤ a) (h1 : a ≤ 9223372036854775807) : 0 ≤ foldI a ∧ foldI a < 18446744073709551616 := by
  unfold foldI; split <;> omega
theorem unfold_in (a : Int) (h0 : 0 ≤ a) (h1 : a < 18446744073709551616) : -9223372036854775808 ≤ unfoldI a ∧ unfoldI a ≤ 9223372036854775807 := by
  unfold unfoldI; split <;> omega

theorem two_pow_cast (k : Nat) : ((2 ^ k : Nat) : Int) = (2 : Int) ^ k := by simp

/-- The mask of k bits. -/
theorem and_mask (a : Int) (k : Nat) (h0 : 0 ≤ a) (h1 : a < 18446744073709551616) (hk : k ≤ 64) :
    bits BinOp.and IntKind.u64 a (IntKind.u64.wrap (IntKind.u64.wrap (2 ^ k) - 1)) = a % 2 ^ k := by
  obtain ⟨n, rfl⟩ := Int.eq_ofNat_of_zero_le h0
  have hp : 1 ≤ 2 ^ k := Nat.one_le_two_pow
  have hle : 2 ^ k ≤ 2 ^ 64 := Nat.pow_le_pow_right (by omega) hk
  have e : IntKind.u64.wrap (IntKind.u64.wrap (2 ^ k) - 1) = ((2 ^ k - 1 : Nat) : Int) := by
    rw [IntKind.wrap_u64, IntKind.wrap_u64, ← two_pow_cast]
    by_cases hk' : k = 64
    · subst hk'; rfl
    · have : 2 ^ k < 2 ^ 64 := Nat.pow_lt_pow_right (by omega) (by omega)
      omega
  rw [e, u64_and_nat _ _ (by omega) (by omega), Nat.and_two_pow_sub_one_eq_mod, ← two_pow_cast]
  rfl

theorem low_in (a n : Int) (h0 : 0 ≤ a) : 0 ≤ lowI a n ∧ lowI a n ≤ a := by
  unfold lowI
  have hp : (0 : Int) < 2 ^ (min n 64).toNat := Int.pow_pos (by omega)
  refine ⟨Int.emod_nonneg _ (by omega), ?_⟩
  have := Int.mul_ediv_add_emod a (2 ^ (min n 64).toNat)
  have h2 : 0 ≤ 2 ^ (min n 64).toNat * (a / 2 ^ (min n 64).toNat) := Int.mul_nonneg (by omega) (Int.ediv_nonneg h0 (by omega))
  omega

theorem low_at (a : Int) (k : Nat) (n : Int) (hn : (min n 64).toNat = k) : lowI a n = a % 2 ^ k := by unfold lowI; rw [hn]

theorem signed_bits (a : Int) (m : Nat) (hm1 : 1 ≤ m) (hm2 : m ≤ 64) :
    wrap64 (IntKind.u64.wrap (a * 2 ^ (64 - m))) / 2 ^ (64 - m) = if a % 2 ^ m < 2 ^ (m - 1) then a % 2 ^ m else a % 2 ^ m - 2 ^ m := by
  have hPQ : (2 : Int) ^ (64 - m) * 2 ^ m = 18446744073709551616 := by rw [← Int.pow_add, show 64 - m + m = 64 from by omega]; rfl
  have hPH : (2 : Int) ^ (64 - m) * 2 ^ (m - 1) = 9223372036854775808 := by rw [← Int.pow_add, show 64 - m + (m - 1) = 63 from by omega]; rfl
  have hP : (0 : Int) < 2 ^ (64 - m) := Int.pow_pos (by omega)
  have hQ : (0 : Int) < 2 ^ m := Int.pow_pos (by omega)
  generalize (2 : Int) ^ (64 - m) = P at *
  generalize (2 : Int) ^ m = Q at *
  generalize (2 : Int) ^ (m - 1) = H at *
  rw [IntKind.wrap_u64]
  have e : a * P % 18446744073709551616 = P * (a % Q) := by
    rw [← hPQ, Int.mul_comm a P, Int.mul_emod_mul_of_pos _ _ hP]
  rw [e]
  have r0 := Int.emod_nonneg a (show Q ≠ 0 from by omega)
  have r1 := Int.emod_lt_of_pos a hQ
  generalize a % Q = r at *
  have b0 : 0 ≤ P * r := Int.mul_nonneg (by omega) r0
  have b1 : P * r < 18446744073709551616 := by rw [← hPQ]; exact Int.mul_lt_mul_of_pos_left r1 hP
  unfold wrap64
  by_cases h : r < H
  · rw [if_pos h]
    have : P * r < 9223372036854775808 := by rw [← hPH]; exact Int.mul_lt_mul_of_pos_left h hP
    rw [show (P * r + 9223372036854775808) % 18446744073709551616 - 9223372036854775808 = P * r from by omega]
    exact Int.mul_ediv_cancel_left _ (by omega)
  · rw [if_neg h]
    have : 9223372036854775808 ≤ P * r := by rw [← hPH]; exact Int.mul_le_mul_of_nonneg_left (by omega) (by omega)
    rw [show (P * r + 9223372036854775808) % 18446744073709551616 - 9223372036854775808 = P * (r - Q) from by rw [Int.mul_sub, hPQ]; omega]
    exact Int.mul_ediv_cancel_left _ (by omega)

theorem signed_at (a n : Int) (m : Nat) (h : (min (max n 1) 64).toNat = m) :
    signedI a n = if a % 2 ^ m < 2 ^ (m - 1) then a % 2 ^ m else a % 2 ^ m - 2 ^ m := by unfold signedI; rw [h]

/-- One more bit. -/
theorem bit_more (a : Int) (k : Nat) (h0 : 0 ≤ a) : a % 2 ^ (k + 1) = a % 2 ^ k + 2 ^ k * (a / 2 ^ k % 2) := by
  obtain ⟨n, rfl⟩ := Int.eq_ofNat_of_zero_le h0
  have := Nat.mod_pow_succ (b := 2) (x := n) (k := k)
  have e := congrArg (Nat.cast : Nat → Int) this
  simpa using e

theorem half_more (a : Int) (k : Nat) : a / 2 ^ k / 2 = a / 2 ^ (k + 1) := by
  rw [Int.ediv_ediv_of_nonneg (Int.le_of_lt (Int.pow_pos (by omega))), ← Int.pow_succ]

theorem low_step_in (a n : Int) (k : Nat) (h0 : 0 ≤ a) (h : (k : Int) < n) :
    a % 2 ^ (min n ((k + 1 : Nat) : Int)).toNat = a % 2 ^ (min n (k : Int)).toNat + 2 ^ k * (a / 2 ^ k % 2) := by
  rw [show (min n ((k + 1 : Nat) : Int)).toNat = k + 1 from by omega, show (min n (k : Int)).toNat = k from by omega]
  exact bit_more a k h0
theorem low_step_out (a n : Int) (k : Nat) (h : n ≤ (k : Int)) :
    a % 2 ^ (min n ((k + 1 : Nat) : Int)).toNat = a % 2 ^ (min n (k : Int)).toNat := by
  rw [show (min n ((k + 1 : Nat) : Int)).toNat = n.toNat from by omega, show (min n (k : Int)).toNat = n.toNat from by omega]
theorem mod_le (a : Int) (k : Nat) (h0 : 0 ≤ a) : 0 ≤ a % 2 ^ k ∧ a % 2 ^ k ≤ a := by
  have hp : (0 : Int) < 2 ^ k := Int.pow_pos (by omega)
  refine ⟨Int.emod_nonneg _ (by omega), ?_⟩
  have := Int.mul_ediv_add_emod a (2 ^ k)
  have h2 : 0 ≤ 2 ^ k * (a / 2 ^ k) := Int.mul_nonneg (by omega) (Int.ediv_nonneg h0 (by omega))
  omega
theorem div_le (a : Int) (k : Nat) (h0 : 0 ≤ a) : 0 ≤ a / 2 ^ k ∧ a / 2 ^ k ≤ a := by
  have hp : (0 : Int) < 2 ^ k := Int.pow_pos (by omega)
  exact ⟨Int.ediv_nonneg h0 (by omega), Int.ediv_le_self _ h0⟩
theorem wrap_add (x y : Int) : IntKind.u64.wrap (x + IntKind.u64.wrap y) = IntKind.u64.wrap (x + y) := by
  simp only [IntKind.wrap_u64]; omega
theorem wrap_two (k : Nat) : IntKind.u64.wrap (2 * IntKind.u64.wrap (2 ^ k)) = IntKind.u64.wrap (2 ^ (k + 1)) := by
  simp only [IntKind.wrap_u64, Int.pow_succ]; omega
theorem wrap_low (x : Int) (h0 : 0 ≤ x) (h1 : x < 18446744073709551616) : IntKind.u64.wrap x = x := by
  rw [IntKind.wrap_u64]; omega

/-- What the definition of a number with a sign has, by its half. -/
theorem signed_half (a n : Int) (k : Nat) (hk : k < 64) (h0 : 0 ≤ a) (hn : (min (max n 1) 64).toNat = k + 1) (m : Int) (hm : (min m 64).toNat = k + 1) :
    0 ≤ lowI a m ∧ lowI a m < 2 * 2 ^ k ∧ (2 : Int) ^ k ≤ 9223372036854775808 ∧ (1 : Int) ≤ 2 ^ k ∧
      signedI a n = if lowI a m < 2 ^ k then lowI a m else lowI a m - 2 * 2 ^ k := by
  have hp : (0 : Int) < 2 ^ k := Int.pow_pos (by omega)
  have e2 : (2 : Int) ^ (k + 1) = 2 * 2 ^ k := by rw [Int.pow_succ, Int.mul_comm]
  have hle : (2 : Int) ^ k ≤ 2 ^ 63 := by
    have := Nat.pow_le_pow_right (n := 2) (by omega) (show k ≤ 63 from by omega)
    have e := two_pow_cast k
    have e63 : ((2 ^ 63 : Nat) : Int) = 2 ^ 63 := two_pow_cast 63
    omega
  refine ⟨(low_in a m h0).1, ?_, by simpa using hle, by omega, ?_⟩
  · rw [low_at a (k + 1) m hm, e2]; exact Int.emod_lt_of_pos _ (by omega)
  · rw [signed_at a n (k + 1) hn, low_at a (k + 1) m hm, e2, Nat.add_sub_cancel]
end Go.Proofs.Ytnekiiahgidkoaa.M
end
section
namespace Go.Proofs.Ytnekiiahgidkoaa.M
open Go.RowKit
set_option linter.unusedVariables false

/-- The number of bytes, the highest first. -/
def rd (l : List UInt8) : Nat := l.foldl (fun v b => 256 * v + b.toNat) 0

theorem rd_snoc (l : List UInt8) (c : UInt8) : rd (l ++ [c]) = 256 * rd l + c.toNat := by
  unfold rd; rw [List.foldl_append]; rfl
theorem rd_from (l : List UInt8) : ∀ v : Nat, l.foldl (fun v b => 256 * v + b.toNat) v < 256 ^ l.length * (v + 1) := by
  induction l with
  | nil => intro v; simp
  | cons c l ih =>
    intro v
    have h := ih (256 * v + c.toNat)
    have hc := c.toNat_lt
    rw [List.foldl_cons, List.length_cons, Nat.pow_succ, Nat.mul_assoc]
    exact Nat.lt_of_lt_of_le h (Nat.mul_le_mul_left _ (by omega))
theorem rd_lt (l : List UInt8) : rd l < 256 ^ l.length := by
  have := rd_from l 0
  simpa [rd] using this
theorem rd_lt8 (l : List UInt8) (h : l.length ≤ 8) : rd l < 18446744073709551616 :=
  Nat.lt_of_lt_of_le (rd_lt l) (Nat.pow_le_pow_right (n := 256) (by omega) h)
theorem rd_lt7 (l : List UInt8) (h : l.length ≤ 7) : rd l < 72057594037927936 :=
  Nat.lt_of_lt_of_le (rd_lt l) (Nat.pow_le_pow_right (n := 256) (by omega) h)
theorem or_low (v b : Nat) (hv : v < 72057594037927936) (hb : b < 256) :
    bits BinOp.or IntKind.u64 ((v : Int) * 256) (b : Int) = ((256 * v + b : Nat) : Int) := by
  rw [show (v : Int) * 256 = ((v * 256 : Nat) : Int) from by omega, u64_or_nat _ _ (by omega) (by omega), nat_join 8 _ _ (by omega) (by omega)]
  omega
theorem take_snoc (s : ByteArray) (k : Nat) (h : k < s.size) : s.data.toList.take (k + 1) = s.data.toList.take k ++ [s[k]] := by
  rw [List.take_succ_eq_append_getElem (by simpa using h)]; rfl
theorem rd_take (s : ByteArray) (k : Nat) (h : k < s.size) : rd (s.data.toList.take (k + 1)) = 256 * rd (s.data.toList.take k) + s[k].toNat := by
  rw [take_snoc s k h, rd_snoc]

def B (l : List UInt8) : ByteArray := ⟨l.toArray⟩
/-- A number as n bytes, the highest first. -/
def fx (a : Int) : Nat → List UInt8
  | 0 => []
  | n + 1 => UInt8.ofNat (a / 256 ^ n % 256).toNat :: fx a n
/-- Is it a number of n bytes, 1 to 8? -/
def fitsB (a n : Int) : Bool := decide (1 ≤ n ∧ n ≤ 8 ∧ a / 256 ^ n.toNat = 0)
theorem ret_bool {a b : Bool} (h : a = b) : Ending.returned (.bool a) = .returned (.bool b) := by rw [h]
theorem fits_in (a n : Int) (h0 : 0 ≤ a) (h1 : 1 ≤ n) (h2 : n ≤ 8) : fitsB a n = (a / 256 ^ n.toNat == 0) := by
  unfold fitsB
  rw [Bool.eq_iff_iff]; simp [h1, h2]
theorem div256_le (a : Int) (k : Nat) (h0 : 0 ≤ a) : 0 ≤ a / 256 ^ k ∧ a / 256 ^ k ≤ a := by
  have hp : (0 : Int) < 256 ^ k := Int.pow_pos (by omega)
  exact ⟨Int.ediv_nonneg h0 (by omega), Int.ediv_le_self _ h0⟩
theorem div256_more (a : Int) (k : Nat) : a / 256 ^ k / 256 = a / 256 ^ (k + 1) := by
  rw [Int.ediv_ediv_of_nonneg (Int.le_of_lt (Int.pow_pos (by omega))), ← Int.pow_succ]

theorem B_append (a b : List UInt8) : B a ++ B b = B (a ++ b) := by
  unfold B
  apply ByteArray.ext
  simp
theorem B_size (l : List UInt8) : (B l).size = l.length := by simp [B, ByteArray.size]
theorem B_data (l : List UInt8) : (B l).data.toList = l := rfl
theorem B_of (s : ByteArray) : B s.data.toList = s := rfl

/-- A string of one byte, out of a slice that was just made. -/
theorem one_byte {P : Program} (src dst e : TypeId) (hs : P.underlying src = some (.slice e)) (he : P.underlying e = some (.int .u8)) (hd : P.underlying dst = some .string) (w : World) (x : Int) :
    (convert src dst (.slice (some ⟨w.heap.size, 0, none⟩) 1 1)).run P (w.alloc (.cells #[.int .u8 x] e)) = .ok (.string (B [UInt8.ofNat x.toNat])) (w.alloc (.cells #[.int .u8 x] e)) := by
  rw [run_convert_bytes_arg (w.alloc (.cells #[.int .u8 x] e)) src e hs he w.heap.size 0 1 1 [x] rfl (by
    intro i hi
    obtain rfl : i = 0 := by omega
    simp) dst hd]
  rfl

theorem fx_length (a : Int) (n : Nat) : (fx a n).length = n := by
  induction n with
  | zero => rfl
  | succ n ih => simp [fx, ih]
theorem fx_size (a : Int) (n : Nat) : (B (fx a n)).size = n := by rw [B_size, fx_length]
theorem B_one (x : UInt8) : (B [x]).size = 1 := rfl

theorem pow256 (n : Int) (h2 : 1 ≤ n) (h3 : n ≤ 8) : (2 : Int) ^ (min (8 * n) 64).toNat = 256 ^ n.toNat := by
  rw [show (min (8 * n) 64).toNat = 8 * n.toNat from by omega, Int.pow_mul]; rfl
theorem fits_low (a n : Int) (h0 : 0 ≤ a) (hf : fitsB a n = true) : lowI a (8 * n) = a := by
  unfold fitsB at hf
  simp only [decide_eq_true_eq] at hf
  obtain ⟨h2, h3, h4⟩ := hf
  unfold lowI
  rw [pow256 n h2 h3]
  have := Int.mul_ediv_add_emod a (256 ^ n.toNat)
  rw [h4] at this; omega
theorem fits_not_low (a n : Int) (h0 : 0 ≤ a) (h2 : 1 ≤ n) (h3 : n ≤ 8) (hf : fitsB a n = false) : (a != lowI a (8 * n)) = true := by
  unfold fitsB at hf
  have h4 : a / 256 ^ n.toNat ≠ 0 := by intro h; simp [h2, h3, h] at hf
  unfold lowI
  rw [pow256 n h2 h3]
  rw [bne_iff_ne]
  intro h
  have hp : (0 : Int) < 256 ^ n.toNat := Int.pow_pos (by omega)
  have := Int.emod_lt_of_pos a hp
  rw [← h] at this
  exact h4 (Int.ediv_eq_zero_of_lt h0 this)

/-- Eight bytes, of which the last k of n have been laid. -/
def lay (a : Int) (n : Nat) : Nat → Array Value
  | 0 => #[.int .u8 0, .int .u8 0, .int .u8 0, .int .u8 0, .int .u8 0, .int .u8 0, .int .u8 0, .int .u8 0]
  | k + 1 => (lay a n k).setIfInBounds (n - 1 - k) (.int .u8 (a / 256 ^ k % 256))
theorem lay_size (a : Int) (n k : Nat) : (lay a n k).size = 8 := by
  induction k with
  | zero => rfl
  | succ k ih => simp [lay, ih]
theorem lay_get (a : Int) (n : Nat) (h : n ≤ 8) (k : Nat) (hk : k ≤ n) (j : Nat) (h1 : n - k ≤ j) (h2 : j < n) :
    (lay a n k)[j]? = some (.int .u8 (a / 256 ^ (n - 1 - j) % 256)) := by
  induction k with
  | zero => omega
  | succ k ih =>
    unfold lay
    by_cases hj : j = n - 1 - k
    · subst hj
      rw [Array.getElem?_setIfInBounds_self_of_lt (by rw [lay_size]; omega), show n - 1 - (n - 1 - k) = k from by omega]
    · rw [Array.getElem?_setIfInBounds_ne (by omega)]
      exact ih (by omega) (by omega)
theorem fx_get (a : Int) (n j : Nat) (h2 : j < n) : (fx a n)[j]? = some (UInt8.ofNat (a / 256 ^ (n - 1 - j) % 256).toNat) := by
  induction n generalizing j with
  | zero => omega
  | succ n ih =>
    unfold fx
    cases j with
    | zero => simp
    | succ j =>
      rw [List.getElem?_cons_succ, ih j (by omega), show n + 1 - 1 - (j + 1) = n - 1 - j from by omega]

/-- The same in whatever world holds the byte. -/
theorem one_byte_at {P : Program} (src dst e : TypeId) (hs : P.underlying src = some (.slice e)) (he : P.underlying e = some (.int .u8)) (hd : P.underlying dst = some .string) (w : World) (b : Nat) (x : Int)
    (hc : w.cell? ⟨b, 0, none⟩ = some (.int .u8 x)) :
    (convert src dst (.slice (some ⟨b, 0, none⟩) 1 1)).run P w = .ok (.string (B [UInt8.ofNat x.toNat])) w := by
  rw [run_convert_bytes_arg w src e hs he b 0 1 1 [x] rfl (by
    intro i hi
    obtain rfl : i = 0 := by omega
    exact hc) dst hd]
  rfl
theorem new_byte (w : World) (x : Int) (e : TypeId) : (w.alloc (.cells #[.int .u8 x] e)).drew.cell? ⟨w.heap.size, 0, none⟩ = some (.int .u8 x) := by
  show (w.alloc (.cells #[.int .u8 x] e)).cell? ⟨w.heap.size, 0, none⟩ = _
  simp
theorem kept_byte (w w' : World) (x : Int) (e : TypeId) (h : Below (w.alloc (.cells #[.int .u8 x] e)).drew.heap.size (w.alloc (.cells #[.int .u8 x] e)).drew w') : w'.cell? ⟨w.heap.size, 0, none⟩ = some (.int .u8 x) := by
  rw [h.cell (p := ⟨w.heap.size, 0, none⟩) (by show w.heap.size < (w.heap.push _).size; simp)]
  exact new_byte w x e
end Go.Proofs.Ytnekiiahgidkoaa.M
end

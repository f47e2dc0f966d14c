/- Bytes: numbers as bytes, chains, texts; nothing of the program. -/
import Derived.WalkKit
import Derived.Laws.BytesArg
import Derived.Below
import Derived.Test.YtkmlmondhmpkkaaMath
namespace Go.Proofs.Ytkmlmondhmpkkaa.M
open Go.RowKit
set_option linter.unusedVariables false

/-- The number of bytes, the highest first. -/
def rd (l : List UInt8) : Nat := l.foldl (fun v b => 256 * v + b.toNat) 0

theorem rd_snoc (l : List UInt8) (c : UInt8) : rd (l ++ [c]) = 256 * rd l + c.toNat := by
  unfold rd; rw [List.foldl_append]; rfl
theorem rd_from (l : List UInt8) : ∀ v : Nat, l.foldl (fun v b => 256 * v + b.toNat) v < 256 ^ l.length * (v + 1) := by
  induction l with
  | nil => intro v; simp
  | cons c l ih =>
    intro v
    have h := ih (256 * v + c.toNat)
    have hc := c.toNat_lt
    rw [List.foldl_cons, List.length_cons, Nat.pow_succ, Nat.mul_assoc]
    exact Nat.lt_of_lt_of_le h (Nat.mul_le_mul_left _ (by omega))
theorem rd_lt (l : List UInt8) : rd l < 256 ^ l.length := by
  have := rd_from l 0
  simpa [rd] using this
theorem rd_lt8 (l : List UInt8) (h : l.length ≤ 8) : rd l < 18446744073709551616 :=
  Nat.lt_of_lt_of_le (rd_lt l) (Nat.pow_le_pow_right (n := 256) (by omega) h)
theorem rd_lt7 (l : List UInt8) (h : l.length ≤ 7) : rd l < 72057594037927936 :=
  Nat.lt_of_lt_of_le (rd_lt l) (Nat.pow_le_pow_right (n := 256) (by omega) h)
theorem or_low (v b : Nat) (hv : v < 72057594037927936) (hb : b < 256) :
    bits BinOp.or IntKind.u64 ((v : Int) * 256) (b : Int) = ((256 * v + b : Nat) : Int) := by
  rw [show (v : Int) * 256 = ((v * 256 : Nat) : Int) from by omega, u64_or_nat _ _ (by omega) (by omega), nat_join 8 _ _ (by omega) (by omega)]
  omega
theorem take_snoc (s : ByteArray) (k : Nat) (h : k < s.size) : s.data.toList.take (k + 1) = s.data.toList.take k ++ [s[k]] := by
  rw [List.take_succ_eq_append_getElem (by simpa using h)]; rfl
theorem rd_take (s : ByteArray) (k : Nat) (h : k < s.size) : rd (s.data.toList.take (k + 1)) = 256 * rd (s.data.toList.take k) + s[k].toNat := by
  rw [take_snoc s k h, rd_snoc]

def B (l : List UInt8) : ByteArray := ⟨l.toArray⟩
/-- A number as n bytes, the highest first. -/
def fx (a : Int) : Nat → List UInt8
  | 0 => []
  | n + 1 => UInt8.ofNat (a / 256 ^ n % 256).toNat :: fx a n
/-- Is it a number of n bytes, 1 to 8? -/
def fitsB (a n : Int) : Bool := decide (1 ≤ n ∧ n ≤ 8 ∧ a / 256 ^ n.toNat = 0)
theorem ret_bool {a b : Bool} (h : a = b) : Ending.returned (.bool a) = .returned (.bool b) := by rw [h]
theorem fits_in (a n : Int) (h0 : 0 ≤ a) (h1 : 1 ≤ n) (h2 : n ≤ 8) : fitsB a n = (a / 256 ^ n.toNat == 0) := by
  unfold fitsB
  rw [Bool.eq_iff_iff]; simp [h1, h2]
theorem div256_le (a : Int) (k : Nat) (h0 : 0 ≤ a) : 0 ≤ a / 256 ^ k ∧ a / 256 ^ k ≤ a := by
  have hp : (0 : Int) < 256 ^ k := Int.pow_pos (by omega)
  exact ⟨Int.ediv_nonneg h0 (by omega), Int.ediv_le_self _ h0⟩
theorem div256_more (a : Int) (k : Nat) : a / 256 ^ k / 256 = a / 256 ^ (k + 1) := by
  rw [Int.ediv_ediv_of_nonneg (Int.le_of_lt (Int.pow_pos (by omega))), ← Int.pow_succ]

theorem B_append (a b : List UInt8) : B a ++ B b = B (a ++ b) := by
  unfold B
  apply ByteArray.ext
  simp
theorem B_size (l : List UInt8) : (B l).size = l.length := by simp [B, ByteArray.size]
theorem B_data (l : List UInt8) : (B l).data.toList = l := rfl
theorem B_of (s : ByteArray) : B s.data.toList = s := rfl

/-- A string of one byte, out of a slice that was just made. -/
theorem one_byte {P : Program} (src dst e : TypeId) (hs : P.underlying src = some (.slice e)) (he : P.underlying e = some (.int .u8)) (hd : P.underlying dst = some .string) (w : World) (x : Int) :
    (convert src dst (.slice (some ⟨w.heap.size, 0, none⟩) 1 1)).run P (w.alloc (.cells #[.int .u8 x] e)) = .ok (.string (B [UInt8.ofNat x.toNat])) (w.alloc (.cells #[.int .u8 x] e)) := by
  rw [run_convert_bytes_arg (w.alloc (.cells #[.int .u8 x] e)) src e hs he w.heap.size 0 1 1 [x] rfl (by
    intro i hi
    obtain rfl : i = 0 := by omega
    simp) dst hd]
  rfl

theorem fx_length (a : Int) (n : Nat) : (fx a n).length = n := by
  induction n with
  | zero => rfl
  | succ n ih => simp [fx, ih]
theorem fx_size (a : Int) (n : Nat) : (B (fx a n)).size = n := by rw [B_size, fx_length]
theorem B_one (x : UInt8) : (B [x]).size = 1 := rfl

theorem pow256 (n : Int) (h2 : 1 ≤ n) (h3 : n ≤ 8) : (2 : Int) ^ (min (8 * n) 64).toNat = 256 ^ n.toNat := by
  rw [show (min (8 * n) 64).toNat = 8 * n.toNat from by omega, Int.pow_mul]; rfl
theorem fits_low (a n : Int) (h0 : 0 ≤ a) (hf : fitsB a n = true) : lowI a (8 * n) = a := by
  unfold fitsB at hf
  simp only [decide_eq_true_eq] at hf
  obtain ⟨h2, h3, h4⟩ := hf
  unfold lowI
  rw [pow256 n h2 h3]
  have := Int.mul_ediv_add_emod a (256 ^ n.toNat)
  rw [h4] at this; omega
theorem fits_not_low (a n : Int) (h0 : 0 ≤ a) (h2 : 1 ≤ n) (h3 : n ≤ 8) (hf : fitsB a n = false) : (a != lowI a (8 * n)) = true := by
  unfold fitsB at hf
  have h4 : a / 256 ^ n.toNat ≠ 0 := by intro h; simp [h2, h3, h] at hf
  unfold lowI
  rw [pow256 n h2 h3]
  rw [bne_iff_ne]
  intro h
  have hp : (0 : Int) < 256 ^ n.toNat := Int.pow_pos (by omega)
  have := Int.emod_lt_of_pos a hp
  rw [← h] at this
  exact h4 (Int.ediv_eq_zero_of_lt h0 this)

/-- Eight bytes, of which the last k of n have been laid. -/
def lay (a : Int) (n : Nat) : Nat → Array Value
  | 0 => #[.int .u8 0, .int .u8 0, .int .u8 0, .int .u8 0, .int .u8 0, .int .u8 0, .int .u8 0, .int .u8 0]
  | k + 1 => (lay a n k).setIfInBounds (n - 1 - k) (.int .u8 (a / 256 ^ k % 256))
theorem lay_size (a : Int) (n k : Nat) : (lay a n k).size = 8 := by
  induction k with
  | zero => rfl
  | succ k ih => simp [lay, ih]
theorem lay_get (a : Int) (n : Nat) (h : n ≤ 8) (k : Nat) (hk : k ≤ n) (j : Nat) (h1 : n - k ≤ j) (h2 : j < n) :
    (lay a n k)[j]? = some (.int .u8 (a / 256 ^ (n - 1 - j) % 256)) := by
  induction k with
  | zero => omega
  | succ k ih =>
    unfold lay
    by_cases hj : j = n - 1 - k
    · subst hj
      rw [Array.getElem?_setIfInBounds_self_of_lt (by rw [lay_size]; omega), show n - 1 - (n - 1 - k) = k from by omega]
    · rw [Array.getElem?_setIfInBounds_ne (by omega)]
      exact ih (by omega) (by omega)
theorem fx_get (a : Int) (n j : Nat) (h2 : j < n) : (fx a n)[j]? = some (UInt8.ofNat (a / 256 ^ (n - 1 - j) % 256).toNat) := by
  induction n generalizing j with
  | zero => omega
  | succ n ih =>
    unfold fx
    cases j with
    | zero => simp
    | succ j =>
      rw [List.getElem?_cons_succ, ih j (by omega), show n + 1 - 1 - (j + 1) = n - 1 - j from by omega]

/-- The same in whatever world holds the byte. -/
theorem one_byte_at {P : Program} (src dst e : TypeId) (hs : P.underlying src = some (.slice e)) (he : P.underlying e = some (.int .u8)) (hd : P.underlying dst = some .string) (w : World) (b : Nat) (x : Int)
    (hc : w.cell? ⟨b, 0, none⟩ = some (.int .u8 x)) :
    (convert src dst (.slice (some ⟨b, 0, none⟩) 1 1)).run P w = .ok (.string (B [UInt8.ofNat x.toNat])) w := by
  rw [run_convert_bytes_arg w src e hs he b 0 1 1 [x] rfl (by
    intro i hi
    obtain rfl : i = 0 := by omega
    exact hc) dst hd]
  rfl
theorem new_byte (w : World) (x : Int) (e : TypeId) : (w.alloc (.cells #[.int .u8 x] e)).drew.cell? ⟨w.heap.size, 0, none⟩ = some (.int .u8 x) := by
  show (w.alloc (.cells #[.int .u8 x] e)).cell? ⟨w.heap.size, 0, none⟩ = _
  simp
theorem kept_byte (w w' : World) (x : Int) (e : TypeId) (h : Below (w.alloc (.cells #[.int .u8 x] e)).drew.heap.size (w.alloc (.cells #[.int .u8 x] e)).drew w') : w'.cell? ⟨w.heap.size, 0, none⟩ = some (.int .u8 x) := by
  rw [h.cell (p := ⟨w.heap.size, 0, none⟩) (by show w.heap.size < (w.heap.push _).size; simp)]
  exact new_byte w x e
end Go.Proofs.Ytkmlmondhmpkkaa.M

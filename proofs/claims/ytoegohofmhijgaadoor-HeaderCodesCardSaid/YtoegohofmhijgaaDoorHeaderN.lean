/- A header's bytes, number by number; nothing of the program. -/
import Derived.WalkKit
import Derived.Test.YtoegohofmhijgaaDoorHeaderM
import Derived.Test.YtoegohofmhijgaaDoorFlat
import Derived.Test.YtoegohofmhijgaaDoorDisk
namespace Go.Proofs.YtoegohofmhijgaaDoor.M
open Go.RowKit
open Go.Proofs.YtoegohofmhijgaaDoor.D
set_option linter.unusedVariables false

/-- The numbers, one by one, how many bytes each has, and where they begin. -/
def nh (a b c d : Nat) : Nat → Nat
  | 0 => a
  | 1 => b
  | 2 => c
  | _ => d
def wdH : Nat → Nat
  | 0 => 2
  | 1 => 4
  | 2 => 4
  | _ => 8
def ofH : Nat → Nat
  | 0 => 2
  | 1 => 4
  | 2 => 8
  | 3 => 12
  | _ => 20
theorem ofH_next (k : Nat) (h : k < 4) : ofH (k + 1) = ofH k + wdH k := by
  match k, h with
  | 0, _ => rfl
  | 1, _ => rfl
  | 2, _ => rfl
  | 3, _ => rfl
theorem ofH_le (k : Nat) (h : k < 4) : ofH k + wdH k ≤ 20 ∧ 2 ≤ wdH k ∧ wdH k ≤ 8 ∧ 2 ≤ ofH k := by
  match k, h with
  | 0, _ => decide
  | 1, _ => decide
  | 2, _ => decide
  | 3, _ => decide
/-- Each number fits. -/
theorem nh_lt {a b c d : Nat} (ha : a < 65536) (hb : b < 4294967296) (hc : c < 4294967296) (hd : d < 18446744073709551616) (k : Nat) : nh a b c d k < 256 ^ wdH k := by
  match k with
  | 0 => exact ha
  | 1 => exact hb
  | 2 => exact hc
  | k + 3 => exact hd
theorem nh_lt64 {a b c d : Nat} (ha : a < 65536) (hb : b < 4294967296) (hc : c < 4294967296) (hd : d < 18446744073709551616) (k : Nat) : nh a b c d k < 18446744073709551616 := by
  match k with
  | 0 => show a < _; omega
  | 1 => show b < _; omega
  | 2 => show c < _; omega
  | k + 3 => exact hd
/-- The mark, and the first k numbers. -/
def preH (f : Nat → Nat) : Nat → List UInt8
  | 0 => [0x57, 0x53]
  | k + 1 => preH f k ++ fx (f k : Int) (wdH k)
theorem preH_len (f : Nat → Nat) (k : Nat) (h : k ≤ 4) : (preH f k).length = ofH k := by
  induction k with
  | zero => rfl
  | succ k ih => unfold preH; rw [List.length_append, ih (by omega), fx_length, ofH_next k (by omega)]
theorem preH_head (a b c d : Nat) : preH (nh a b c d) 4 ++ List.replicate 8 0 = headH a b c d := by unfold headH; simp [preH, nh, wdH]
/-- Bytes ahead of bytes 0, as 32 cells. -/
def padH (l : List UInt8) : List Value := bytesV (l ++ List.replicate (32 - l.length) 0)
theorem padH_len (l : List UInt8) (h : l.length ≤ 32) : (padH l).length = 32 := by unfold padH; rw [bytesV_len]; simp; omega
theorem padH_zero : padH [] = List.replicate 32 (Value.int .u8 0) := by unfold padH bytesV; rw [List.map_append, List.map_replicate]; rfl
theorem padH_more (p x : List UInt8) (h : p.length + x.length ≤ 32) : splice (padH p) p.length (bytesV x) = padH (p ++ x) := by
  unfold padH bytesV splice
  rw [List.map_append, List.map_append, List.map_append]
  rw [List.take_append_of_le_length (by simp), List.take_of_length_le (by simp)]
  rw [List.length_map, List.drop_append, List.drop_of_length_le (by simp), List.nil_append, List.length_map, List.map_replicate, List.map_replicate, List.drop_replicate, List.length_append, ← List.append_assoc]
  congr 2
  omega
theorem padH_row (l : List UInt8) (j : Nat) (h : j < l.length) : (padH l)[j]? = some (.int .u8 (l[j].toNat : Int)) := by
  unfold padH bytesV
  rw [List.map_append, List.getElem?_append_left (by simpa using h), List.getElem?_map, List.getElem?_eq_getElem h]
  rfl
theorem padH_head (a b c d : Nat) : padH (preH (nh a b c d) 4) = padH (headH a b c d) := by
  rw [← preH_head]
  unfold padH
  rw [List.length_append, preH_len _ 4 (by omega), List.length_replicate, List.append_assoc, List.replicate_append_replicate]
  rfl
theorem padH_all (a b c d : Nat) : splice (padH (headH a b c d)) 28 (bytesV (fx (crc 0 (headH a b c d) : Nat) 4)) = bytesV (headerL a b c d) := by
  have e := padH_more (headH a b c d) (fx (crc 0 (headH a b c d) : Nat) 4) (by rw [headH_len, fx_length]; omega)
  rw [headH_len] at e
  rw [e]
  show padH (headerL a b c d) = _
  unfold padH
  rw [headerL_len]
  simp
/-- A header's number, as bytes tell it. -/
def numH (x : ByteArray) (k : Nat) : Nat := rd (x.extract (ofH k) (ofH k + wdH k)).data.toList
theorem numH_lt (x : ByteArray) (k : Nat) : numH x k < 256 ^ wdH k := rd_ext_lt x _ _ _ (by omega)
theorem numH_parts (x : ByteArray) : numH x 0 = logH x ∧ numH x 1 = genH x ∧ numH x 2 = stH x ∧ numH x 3 = baseH x := ⟨rfl, rfl, rfl, rfl⟩
/-- Four numbers, of which the first k are told. -/
def toldH (x : ByteArray) (k : Nat) : List Value := (List.range 4).map fun i => .int .u64 ((if i < k then numH x i else 0 : Nat) : Int)
theorem toldH_len (x : ByteArray) (k : Nat) : (toldH x k).length = 4 := by simp [toldH]
theorem toldH_set (x : ByteArray) (k : Nat) : (toldH x k).set k (.int .u64 (numH x k : Nat)) = toldH x (k + 1) := by
  apply List.ext_getElem?
  intro i
  unfold toldH
  rw [List.getElem?_set]
  by_cases h : k = i
  · subst h
    rw [if_pos rfl]
    by_cases h2 : k < 4
    · simp [h2]
    · simp [h2]
  · rw [if_neg h]
    by_cases h2 : i < 4
    · simp only [List.getElem?_map, List.getElem?_range h2, Option.map_some]
      by_cases h3 : i < k
      · rw [if_pos h3, if_pos (by omega)]
      · rw [if_neg h3, if_neg (by omega)]
    · simp [h2]
theorem toldH_at (x : ByteArray) (k : Nat) (h : k < 4) : (toldH x k)[k]? = some (.int .u64 0) := by
  unfold toldH
  rw [List.getElem?_map, List.getElem?_range h]
  simp
end Go.Proofs.YtoegohofmhijgaaDoor.M

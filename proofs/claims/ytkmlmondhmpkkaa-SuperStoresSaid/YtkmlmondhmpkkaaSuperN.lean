/- A super's bytes, number by number; nothing of the program. -/
import Derived.WalkKit
import Derived.Test.YtkmlmondhmpkkaaSuperM
import Derived.Test.YtkmlmondhmpkkaaFlat
namespace Go.Proofs.Ytkmlmondhmpkkaa.M
open Go.RowKit
open Go.Proofs.Ytkmlmondhmpkkaa.D
set_option linter.unusedVariables false

/-- The numbers, one by one. -/
def nu (a b c d e : Nat) : Nat → Nat
  | 0 => a
  | 1 => b
  | 2 => c
  | 3 => d
  | _ => e
theorem nu_lt {a b c d e : Nat} (ha : a < 4294967296) (hb : b < 4294967296) (hc : c < 4294967296) (hd : d < 4294967296) (he : e < 4294967296) (k : Nat) : nu a b c d e k < 4294967296 := by
  unfold nu; split <;> assumption
/-- The mark, and the first k numbers. -/
def preU (f : Nat → Nat) : Nat → List UInt8
  | 0 => [0x57, 0x4c]
  | k + 1 => preU f k ++ fx (f k : Int) 4
theorem preU_len (f : Nat → Nat) (k : Nat) : (preU f k).length = 2 + 4 * k := by
  induction k with
  | zero => rfl
  | succ k ih => unfold preU; rw [List.length_append, ih, fx_length]; omega
theorem preU_head (a b c d e : Nat) : preU (nu a b c d e) 5 = headU a b c d e := by unfold headU; simp [preU, nu]
/-- Bytes ahead of bytes 0, as 52 cells. -/
def padV (l : List UInt8) : List Value := bytesV (l ++ List.replicate (52 - l.length) 0)
theorem padV_len (l : List UInt8) (h : l.length ≤ 52) : (padV l).length = 52 := by unfold padV; rw [bytesV_len]; simp; omega
theorem padV_zero : padV [] = List.replicate 52 (Value.int .u8 0) := by unfold padV bytesV; rw [List.map_append, List.map_replicate]; rfl
theorem padV_more (p x : List UInt8) (h : p.length + x.length ≤ 52) : splice (padV p) p.length (bytesV x) = padV (p ++ x) := by
  unfold padV bytesV splice
  rw [List.map_append, List.map_append, List.map_append]
  rw [List.take_append_of_le_length (by simp), List.take_of_length_le (by simp)]
  rw [List.length_map, List.drop_append, List.drop_of_length_le (by simp), List.nil_append, List.length_map, List.map_replicate, List.map_replicate, List.drop_replicate, List.length_append, ← List.append_assoc]
  congr 2
  omega
theorem padV_data (a b c d e : Nat) : padV (headU a b c d e ++ fx (crc 0 (headU a b c d e) : Nat) 4) = bytesV (dataU a b c d e) := by
  unfold padV dataU
  rw [List.length_append, headU_len, fx_length]
theorem padV_row (l : List UInt8) (j : Nat) (h : j < l.length) : (padV l)[j]? = some (.int .u8 (l[j].toNat : Int)) := by
  unfold padV bytesV
  rw [List.map_append, List.getElem?_append_left (by simpa using h), List.getElem?_map, List.getElem?_eq_getElem h]
  rfl
/-- A sector that opens is a super just if its data, its stamp and its count are those. -/
theorem isU_iff (s : ByteArray) (ho : opensS s) : isU s ↔ (s.extract 6 58).data.toList = dataU (numU (s.extract 6 58) 0) (numU (s.extract 6 58) 1) (numU (s.extract 6 58) 2) (numU (s.extract 6 58) 3) (numU (s.extract 6 58) 4) ∧ stampS s = numU (s.extract 6 58) 0 ∧ countS s = 1 := by
  constructor
  · intro h
    have h2 := isU_opens s h
    have h3 := open_super (numU (s.extract 6 58) 0) (numU (s.extract 6 58) 1) (numU (s.extract 6 58) 2) (numU (s.extract 6 58) 3) (numU (s.extract 6 58) 4) (numU_lt _ _)
    refine ⟨?_, h2.2.2, h2.2.1⟩
    unfold isU at h
    rw [← h] at h3
    have e := congrArg (fun b : ByteArray => b.data.toList) h3.2.2.2
    exact e
  · rintro ⟨h1, h2, h3⟩
    have e := (seal_same s ho.1).2 ho.2.2
    unfold isU superU
    rw [← h1, ← h2]
    rw [h3] at e
    exact e.symm
/-- Five numbers, of which the first k are told. -/
def toldV (x : ByteArray) (k : Nat) : List Value := (List.range 5).map fun i => .int .u32 ((if i < k then numU x i else 0 : Nat) : Int)
theorem toldV_len (x : ByteArray) (k : Nat) : (toldV x k).length = 5 := by simp [toldV]
theorem toldV_set (x : ByteArray) (k : Nat) : (toldV x k).set k (.int .u32 (numU x k : Nat)) = toldV x (k + 1) := by
  apply List.ext_getElem?
  intro i
  unfold toldV
  rw [List.getElem?_set]
  by_cases h : k = i
  · subst h
    rw [if_pos rfl]
    by_cases h2 : k < 5
    · simp [h2]
    · simp [h2]
  · rw [if_neg h]
    by_cases h2 : i < 5
    · simp only [List.getElem?_map, List.getElem?_range h2, Option.map_some]
      by_cases h3 : i < k
      · rw [if_pos h3, if_pos (by omega)]
      · rw [if_neg h3, if_neg (by omega)]
    · simp [h2]
theorem toldV_at (x : ByteArray) (k : Nat) (h : k < 5) : (toldV x k)[k]? = some (.int .u32 0) := by
  unfold toldV
  rw [List.getElem?_map, List.getElem?_range h]
  simp
theorem splice_1 (cur : List Value) (j : Nat) (v : Value) (h : j < cur.length) : splice cur j [v] = cur.set j v := by
  unfold splice
  rw [List.set_eq_take_append_cons_drop, if_pos h]
  rfl
end Go.Proofs.Ytkmlmondhmpkkaa.M

/- Headers of segments as bytes; stamps of an epoch and a count; nothing of the program. A header's bytes, number by number; nothing of the program. -/
import Derived.WalkKit
import Derived.Test.YtgogackkeodciabGreatDoorSealM
import Derived.Test.YtgogackkeodciabGreatDoorFrameM
import Derived.Test.YtgogackkeodciabGreatDoorFlat
import Derived.Test.YtgogackkeodciabGreatDoorDisk
section
namespace Go.Proofs.YtgogackkeodciabGreatDoor.M
open Go.RowKit
set_option linter.unusedVariables false

/-- A header's numbers as bytes: Log, Gen, Stamp, Base, eight zeros; and with its CRC. -/
def headH (lg gn st bs : Nat) : List UInt8 := [0x57, 0x53] ++ fx (lg : Int) 2 ++ fx (gn : Int) 4 ++ fx (st : Int) 4 ++ fx (bs : Int) 8 ++ List.replicate 8 (0 : UInt8)
def headerL (lg gn st bs : Nat) : List UInt8 := headH lg gn st bs ++ fx (crc 0 (headH lg gn st bs) : Nat) 4
theorem headH_len (lg gn st bs : Nat) : (headH lg gn st bs).length = 28 := by simp [headH, fx_length]
theorem headerL_len (lg gn st bs : Nat) : (headerL lg gn st bs).length = 32 := by simp [headerL, headH_len, fx_length]
/-- What bytes tell. -/
def logH (s : ByteArray) : Nat := rd (s.extract 2 4).data.toList
def genH (s : ByteArray) : Nat := rd (s.extract 4 8).data.toList
def stH (s : ByteArray) : Nat := rd (s.extract 8 12).data.toList
def baseH (s : ByteArray) : Nat := rd (s.extract 12 20).data.toList
theorem rd_ext_lt (s : ByteArray) (i j n : Nat) (h : j - i ≤ n) : rd (s.extract i j).data.toList < 256 ^ n := by
  have h1 := rd_lt (s.extract i j).data.toList
  have h2 : (s.extract i j).data.toList.length ≤ n := by simp; omega
  exact Nat.lt_of_lt_of_le h1 (Nat.pow_le_pow_right (n := 256) (by omega) h2)
theorem logH_lt (s : ByteArray) : logH s < 65536 := rd_ext_lt s 2 4 2 (by omega)
theorem genH_lt (s : ByteArray) : genH s < 4294967296 := rd_ext_lt s 4 8 4 (by omega)
theorem stH_lt (s : ByteArray) : stH s < 4294967296 := rd_ext_lt s 8 12 4 (by omega)
theorem baseH_lt (s : ByteArray) : baseH s < 18446744073709551616 := rd_ext_lt s 12 20 8 (by omega)
theorem ext_len (s : ByteArray) (i j : Nat) (h : j ≤ s.size) : (s.extract i j).data.toList.length = j - i := by simp; omega
theorem ext_join (s : ByteArray) (i j k : Nat) (h1 : i ≤ j) (h2 : j ≤ k) : (s.extract i j).data.toList ++ (s.extract j k).data.toList = (s.extract i k).data.toList := by
  rw [ext_list, ext_list, ext_list]
  have e : s.data.toList.drop j = (s.data.toList.drop i).drop (j - i) := by rw [List.drop_drop]; congr 1; omega
  rw [e, show k - i = (j - i) + (k - j) from by omega, List.take_add]
theorem fx_ext (s : ByteArray) (i j n : Nat) (h : j ≤ s.size) (hn : j - i = n) : fx (rd (s.extract i j).data.toList : Nat) n = (s.extract i j).data.toList := by
  have e := fx_rd (s.extract i j).data.toList
  rwa [ext_len s i j h, hn] at e
theorem crc0_lt (l : List UInt8) : crc 0 l < 4294967296 := by
  have h := reg_lt l (ones - 0) (by unfold ones; omega)
  unfold crc ones at *; omega
/-- The bytes are those of the header that they tell, just if mark, zeros and CRC are right. -/
theorem head_fields (s : ByteArray) (h : 32 ≤ s.size) :
    (s.extract 0 32 = B (headerL (logH s) (genH s) (stH s) (baseH s))) ↔
      ((s.extract 0 2).data.toList = [0x57, 0x53] ∧ (s.extract 20 28).data.toList = List.replicate 8 (0 : UInt8) ∧ rd (s.extract 28 32).data.toList = crc 0 (s.extract 0 28).data.toList) := by
  have e1 := fx_ext s 2 4 2 (by omega) rfl
  have e2 := fx_ext s 4 8 4 (by omega) rfl
  have e3 := fx_ext s 8 12 4 (by omega) rfl
  have e4 := fx_ext s 12 20 8 (by omega) rfl
  have e5 := fx_ext s 28 32 4 (by omega) rfl
  have hh : headH (logH s) (genH s) (stH s) (baseH s) = [0x57, 0x53] ++ (s.extract 2 20).data.toList ++ List.replicate 8 (0 : UInt8) := by
    unfold headH logH genH stH baseH
    rw [e1, e2, e3, e4, ← ext_join s 2 4 20 (by omega) (by omega), ← ext_join s 4 8 20 (by omega) (by omega), ← ext_join s 8 12 20 (by omega) (by omega)]
    simp only [List.append_assoc]
  have hs : (s.extract 0 32).data.toList = ((s.extract 0 2).data.toList ++ (s.extract 2 20).data.toList ++ (s.extract 20 28).data.toList) ++ (s.extract 28 32).data.toList := by
    rw [ext_join s 0 2 20 (by omega) (by omega), ext_join s 0 20 28 (by omega) (by omega), ext_join s 0 28 32 (by omega) (by omega)]
  have hq : (s.extract 0 28).data.toList = (s.extract 0 2).data.toList ++ (s.extract 2 20).data.toList ++ (s.extract 20 28).data.toList := by
    rw [ext_join s 0 2 20 (by omega) (by omega), ext_join s 0 20 28 (by omega) (by omega)]
  constructor
  · intro e
    have e' : (s.extract 0 32).data.toList = headerL (logH s) (genH s) (stH s) (baseH s) := by rw [e, B_data]
    unfold headerL at e'
    rw [hs, hh] at e'
    have l1 : ((s.extract 0 2).data.toList ++ (s.extract 2 20).data.toList ++ (s.extract 20 28).data.toList).length = ([0x57, 0x53] ++ (s.extract 2 20).data.toList ++ List.replicate 8 (0 : UInt8)).length := by
      simp only [List.length_append, ext_len s _ _ (show 2 ≤ s.size by omega), ext_len s _ _ (show 20 ≤ s.size by omega), ext_len s _ _ (show 28 ≤ s.size by omega), List.length_replicate, List.length_cons, List.length_nil]
    obtain ⟨c1, c2⟩ := List.append_inj e' l1
    have l2 : ((s.extract 0 2).data.toList ++ (s.extract 2 20).data.toList).length = ([0x57, 0x53] ++ (s.extract 2 20).data.toList).length := by
      simp only [List.length_append, ext_len s _ _ (show 2 ≤ s.size by omega), List.length_cons, List.length_nil]
    obtain ⟨d1, d2⟩ := List.append_inj c1 l2
    have d3 := List.append_cancel_right d1
    refine ⟨d3, d2, ?_⟩
    rw [c2, rd_fx_nat _ 4 (crc0_lt _), hq, d3, d2]
  · rintro ⟨c1, c2, c3⟩
    rw [← B_of (s.extract 0 32), hs]
    congr 1
    unfold headerL
    rw [hh, ← c1, ← c2, ← hq, ← c3, e5]
/-- Decode of Encode: what lies ahead of whatever. -/
theorem open_header (lg gn st bs : Nat) (m : ByteArray) (h1 : lg < 65536) (h2 : gn < 4294967296) (h3 : st < 4294967296) (h4 : bs < 18446744073709551616) :
    logH (B (headerL lg gn st bs) ++ m) = lg ∧ genH (B (headerL lg gn st bs) ++ m) = gn ∧ stH (B (headerL lg gn st bs) ++ m) = st ∧ baseH (B (headerL lg gn st bs) ++ m) = bs ∧ (B (headerL lg gn st bs) ++ m).extract 0 32 = B (headerL lg gn st bs) := by
  obtain ⟨s, hs⟩ : ∃ s, B (headerL lg gn st bs) ++ m = s := ⟨_, rfl⟩
  have hl : s = B (headerL lg gn st bs ++ m.data.toList) := by rw [← hs, ← B_append, B_of]
  rw [hs]
  obtain ⟨Q, hQ⟩ : ∃ Q, fx (crc 0 (headH lg gn st bs) : Nat) 4 = Q := ⟨_, rfl⟩
  have f : ∀ n (x : Nat), (fx (x : Int) n).length = n := fun n x => fx_length _ _
  have p1 : s.extract 2 4 = B (fx (lg : Int) 2) := ext_at [0x57, 0x53] _ (fx (gn : Int) 4 ++ fx (st : Int) 4 ++ fx (bs : Int) 8 ++ List.replicate 8 (0 : UInt8) ++ Q) m.data.toList 2 4 rfl (by rw [f]; rfl) s (by rw [hl]; unfold headerL; rw [hQ]; unfold headH; simp only [List.append_assoc])
  have p2 : s.extract 4 8 = B (fx (gn : Int) 4) := ext_at ([0x57, 0x53] ++ fx (lg : Int) 2) _ (fx (st : Int) 4 ++ fx (bs : Int) 8 ++ List.replicate 8 (0 : UInt8) ++ Q) m.data.toList 4 8 (by simp [f]) (by simp [f]) s (by rw [hl]; unfold headerL; rw [hQ]; unfold headH; simp only [List.append_assoc])
  have p3 : s.extract 8 12 = B (fx (st : Int) 4) := ext_at ([0x57, 0x53] ++ fx (lg : Int) 2 ++ fx (gn : Int) 4) _ (fx (bs : Int) 8 ++ List.replicate 8 (0 : UInt8) ++ Q) m.data.toList 8 12 (by simp [f]) (by simp [f]) s (by rw [hl]; unfold headerL; rw [hQ]; unfold headH; simp only [List.append_assoc])
  have p4 : s.extract 12 20 = B (fx (bs : Int) 8) := ext_at ([0x57, 0x53] ++ fx (lg : Int) 2 ++ fx (gn : Int) 4 ++ fx (st : Int) 4) _ (List.replicate 8 (0 : UInt8) ++ Q) m.data.toList 12 20 (by simp [f]) (by simp [f]) s (by rw [hl]; unfold headerL; rw [hQ]; unfold headH; simp only [List.append_assoc])
  have p5 : s.extract 0 32 = B (headerL lg gn st bs) := ext_at [] _ [] m.data.toList 0 32 rfl (by rw [headerL_len]; rfl) s (by rw [hl]; simp)
  refine ⟨?_, ?_, ?_, ?_, p5⟩
  · unfold logH; rw [p1, B_data]; exact rd_fx_nat lg 2 h1
  · unfold genH; rw [p2, B_data]; exact rd_fx_nat gn 4 h2
  · unfold stH; rw [p3, B_data]; exact rd_fx_nat st 4 h3
  · unfold baseH; rw [p4, B_data]; exact rd_fx_nat bs 8 h4
/-- Is it a header? -/
def isH (s : ByteArray) : Prop := 1 ≤ logH s ∧ baseH s ≤ 1099511627776 ∧ s.extract 0 32 = B (headerL (logH s) (genH s) (stH s) (baseH s))
theorem isH_header (lg gn st bs : Nat) (m : ByteArray) (h0 : 1 ≤ lg) (h1 : lg < 65536) (h2 : gn < 4294967296) (h3 : st < 4294967296) (h4 : bs ≤ 1099511627776) : isH (B (headerL lg gn st bs) ++ m) := by
  obtain ⟨c1, c2, c3, c4, c5⟩ := open_header lg gn st bs m h1 h2 h3 (by omega)
  unfold isH
  rw [c1, c2, c3, c4]
  exact ⟨h0, h4, c5⟩
/-- A stamp's parts. -/
theorem stamp_parts (e c : Nat) (he : e < 65536) (hc : c < 65536) : (65536 * e + c) / 65536 = e ∧ (65536 * e + c) % 65536 = c ∧ 65536 * e + c < 4294967296 := by omega
end Go.Proofs.YtgogackkeodciabGreatDoor.M
end
section
namespace Go.Proofs.YtgogackkeodciabGreatDoor.M
open Go.RowKit
open Go.Proofs.YtgogackkeodciabGreatDoor.D
set_option linter.unusedVariables false

/-- The numbers, one by one, how many bytes each has, and where they begin. -/
def nh (a b c d : Nat) : Nat → Nat
  | 0 => a
  | 1 => b
  | 2 => c
  | _ => d
def wdH : Nat → Nat
  | 0 => 2
  | 1 => 4
  | 2 => 4
  | _ => 8
def ofH : Nat → Nat
  | 0 => 2
  | 1 => 4
  | 2 => 8
  | 3 => 12
  | _ => 20
theorem ofH_next (k : Nat) (h : k < 4) : ofH (k + 1) = ofH k + wdH k := by
  match k, h with
  | 0, _ => rfl
  | 1, _ => rfl
  | 2, _ => rfl
  | 3, _ => rfl
theorem ofH_le (k : Nat) (h : k < 4) : ofH k + wdH k ≤ 20 ∧ 2 ≤ wdH k ∧ wdH k ≤ 8 ∧ 2 ≤ ofH k := by
  match k, h with
  | 0, _ => decide
  | 1, _ => decide
  | 2, _ => decide
  | 3, _ => decide
/-- Each number fits. -/
theorem nh_lt {a b c d : Nat} (ha : a < 65536) (hb : b < 4294967296) (hc : c < 4294967296) (hd : d < 18446744073709551616) (k : Nat) : nh a b c d k < 256 ^ wdH k := by
  match k with
  | 0 => exact ha
  | 1 => exact hb
  | 2 => exact hc
  | k + 3 => exact hd
theorem nh_lt64 {a b c d : Nat} (ha : a < 65536) (hb : b < 4294967296) (hc : c < 4294967296) (hd : d < 18446744073709551616) (k : Nat) : nh a b c d k < 18446744073709551616 := by
  match k with
  | 0 => show a < _; omega
  | 1 => show b < _; omega
  | 2 => show c < _; omega
  | k + 3 => exact hd
/-- The mark, and the first k numbers. -/
def preH (f : Nat → Nat) : Nat → List UInt8
  | 0 => [0x57, 0x53]
  | k + 1 => preH f k ++ fx (f k : Int) (wdH k)
theorem preH_len (f : Nat → Nat) (k : Nat) (h : k ≤ 4) : (preH f k).length = ofH k := by
  induction k with
  | zero => rfl
  | succ k ih => unfold preH; rw [List.length_append, ih (by omega), fx_length, ofH_next k (by omega)]
theorem preH_head (a b c d : Nat) : preH (nh a b c d) 4 ++ List.replicate 8 0 = headH a b c d := by unfold headH; simp [preH, nh, wdH]
/-- Bytes ahead of bytes 0, as 32 cells. -/
def padH (l : List UInt8) : List Value := bytesV (l ++ List.replicate (32 - l.length) 0)
theorem padH_len (l : List UInt8) (h : l.length ≤ 32) : (padH l).length = 32 := by unfold padH; rw [bytesV_len]; simp; omega
theorem padH_zero : padH [] = List.replicate 32 (Value.int .u8 0) := by unfold padH bytesV; rw [List.map_append, List.map_replicate]; rfl
theorem padH_more (p x : List UInt8) (h : p.length + x.length ≤ 32) : splice (padH p) p.length (bytesV x) = padH (p ++ x) := by
  unfold padH bytesV splice
  rw [List.map_append, List.map_append, List.map_append]
  rw [List.take_append_of_le_length (by simp), List.take_of_length_le (by simp)]
  rw [List.length_map, List.drop_append, List.drop_of_length_le (by simp), List.nil_append, List.length_map, List.map_replicate, List.map_replicate, List.drop_replicate, List.length_append, ← List.append_assoc]
  congr 2
  omega
theorem padH_row (l : List UInt8) (j : Nat) (h : j < l.length) : (padH l)[j]? = some (.int .u8 (l[j].toNat : Int)) := by
  unfold padH bytesV
  rw [List.map_append, List.getElem?_append_left (by simpa using h), List.getElem?_map, List.getElem?_eq_getElem h]
  rfl
theorem padH_head (a b c d : Nat) : padH (preH (nh a b c d) 4) = padH (headH a b c d) := by
  rw [← preH_head]
  unfold padH
  rw [List.length_append, preH_len _ 4 (by omega), List.length_replicate, List.append_assoc, List.replicate_append_replicate]
  rfl
theorem padH_all (a b c d : Nat) : splice (padH (headH a b c d)) 28 (bytesV (fx (crc 0 (headH a b c d) : Nat) 4)) = bytesV (headerL a b c d) := by
  have e := padH_more (headH a b c d) (fx (crc 0 (headH a b c d) : Nat) 4) (by rw [headH_len, fx_length]; omega)
  rw [headH_len] at e
  rw [e]
  show padH (headerL a b c d) = _
  unfold padH
  rw [headerL_len]
  simp
/-- A header's number, as bytes tell it. -/
def numH (x : ByteArray) (k : Nat) : Nat := rd (x.extract (ofH k) (ofH k + wdH k)).data.toList
theorem numH_lt (x : ByteArray) (k : Nat) : numH x k < 256 ^ wdH k := rd_ext_lt x _ _ _ (by omega)
theorem numH_parts (x : ByteArray) : numH x 0 = logH x ∧ numH x 1 = genH x ∧ numH x 2 = stH x ∧ numH x 3 = baseH x := ⟨rfl, rfl, rfl, rfl⟩
/-- Four numbers, of which the first k are told. -/
def toldH (x : ByteArray) (k : Nat) : List Value := (List.range 4).map fun i => .int .u64 ((if i < k then numH x i else 0 : Nat) : Int)
theorem toldH_len (x : ByteArray) (k : Nat) : (toldH x k).length = 4 := by simp [toldH]
theorem toldH_set (x : ByteArray) (k : Nat) : (toldH x k).set k (.int .u64 (numH x k : Nat)) = toldH x (k + 1) := by
  apply List.ext_getElem?
  intro i
  unfold toldH
  rw [List.getElem?_set]
  by_cases h : k = i
  · subst h
    rw [if_pos rfl]
    by_cases h2 : k < 4
    · simp [h2]
    · simp [h2]
  · rw [if_neg h]
    by_cases h2 : i < 4
    · simp only [List.getElem?_map, List.getElem?_range h2, Option.map_some]
      by_cases h3 : i < k
      · rw [if_pos h3, if_pos (by omega)]
      · rw [if_neg h3, if_neg (by omega)]
    · simp [h2]
theorem toldH_at (x : ByteArray) (k : Nat) (h : k < 4) : (toldH x k)[k]? = some (.int .u64 0) := by
  unfold toldH
  rw [List.getElem?_map, List.getElem?_range h]
  simp
end Go.Proofs.YtgogackkeodciabGreatDoor.M
end

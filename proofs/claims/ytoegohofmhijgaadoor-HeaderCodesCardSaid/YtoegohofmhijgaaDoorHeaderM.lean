/- Headers of segments as bytes; stamps of an epoch and a count; nothing of the program. -/
import Derived.WalkKit
import Derived.Test.YtoegohofmhijgaaDoorSealM
import Derived.Test.YtoegohofmhijgaaDoorFrameM
namespace Go.Proofs.YtoegohofmhijgaaDoor.M
open Go.RowKit
set_option linter.unusedVariables false

/-- A header's numbers as bytes: Log, Gen, Stamp, Base, eight zeros; and with its CRC. -/
def headH (lg gn st bs : Nat) : List UInt8 := [0x57, 0x53] ++ fx (lg : Int) 2 ++ fx (gn : Int) 4 ++ fx (st : Int) 4 ++ fx (bs : Int) 8 ++ List.replicate 8 (0 : UInt8)
def headerL (lg gn st bs : Nat) : List UInt8 := headH lg gn st bs ++ fx (crc 0 (headH lg gn st bs) : Nat) 4
theorem headH_len (lg gn st bs : Nat) : (headH lg gn st bs).length = 28 := by simp [headH, fx_length]
theorem headerL_len (lg gn st bs : Nat) : (headerL lg gn st bs).length = 32 := by simp [headerL, headH_len, fx_length]
/-- What bytes tell. -/
def logH (s : ByteArray) : Nat := rd (s.extract 2 4).data.toList
def genH (s : ByteArray) : Nat := rd (s.extract 4 8).data.toList
def stH (s : ByteArray) : Nat := rd (s.extract 8 12).data.toList
def baseH (s : ByteArray) : Nat := rd (s.extract 12 20).data.toList
theorem rd_ext_lt (s : ByteArray) (i j n : Nat) (h : j - i ≤ n) : rd (s.extract i j).data.toList < 256 ^ n := by
  have h1 := rd_lt (s.extract i j).data.toList
  have h2 : (s.extract i j).data.toList.length ≤ n := by simp; omega
  exact Nat.lt_of_lt_of_le h1 (Nat.pow_le_pow_right (n := 256) (by omega) h2)
theorem logH_lt (s : ByteArray) : logH s < 65536 := rd_ext_lt s 2 4 2 (by omega)
theorem genH_lt (s : ByteArray) : genH s < 4294967296 := rd_ext_lt s 4 8 4 (by omega)
theorem stH_lt (s : ByteArray) : stH s < 4294967296 := rd_ext_lt s 8 12 4 (by omega)
theorem baseH_lt (s : ByteArray) : baseH s < 18446744073709551616 := rd_ext_lt s 12 20 8 (by omega)
theorem ext_len (s : ByteArray) (i j : Nat) (h : j ≤ s.size) : (s.extract i j).data.toList.length = j - i := by simp; omega
theorem ext_join (s : ByteArray) (i j k : Nat) (h1 : i ≤ j) (h2 : j ≤ k) : (s.extract i j).data.toList ++ (s.extract j k).data.toList = (s.extract i k).data.toList := by
  rw [ext_list, ext_list, ext_list]
  have e : s.data.toList.drop j = (s.data.toList.drop i).drop (j - i) := by rw [List.drop_drop]; congr 1; omega
  rw [e, show k - i = (j - i) + (k - j) from by omega, List.take_add]
theorem fx_ext (s : ByteArray) (i j n : Nat) (h : j ≤ s.size) (hn : j - i = n) : fx (rd (s.extract i j).data.toList : Nat) n = (s.extract i j).data.toList := by
  have e := fx_rd (s.extract i j).data.toList
  rwa [ext_len s i j h, hn] at e
theorem crc0_lt (l : List UInt8) : crc 0 l < 4294967296 := by
  have h := reg_lt l (ones - 0) (by unfold ones; omega)
  unfold crc ones at *; omega
/-- The bytes are those of the header that they tell, just if mark, zeros and CRC are right. -/
theorem head_fields (s : ByteArray) (h : 32 ≤ s.size) :
    (s.extract 0 32 = B (headerL (logH s) (genH s) (stH s) (baseH s))) ↔
      ((s.extract 0 2).data.toList = [0x57, 0x53] ∧ (s.extract 20 28).data.toList = List.replicate 8 (0 : UInt8) ∧ rd (s.extract 28 32).data.toList = crc 0 (s.extract 0 28).data.toList) := by
  have e1 := fx_ext s 2 4 2 (by omega) rfl
  have e2 := fx_ext s 4 8 4 (by omega) rfl
  have e3 := fx_ext s 8 12 4 (by omega) rfl
  have e4 := fx_ext s 12 20 8 (by omega) rfl
  have e5 := fx_ext s 28 32 4 (by omega) rfl
  have hh : headH (logH s) (genH s) (stH s) (baseH s) = [0x57, 0x53] ++ (s.extract 2 20).data.toList ++ List.replicate 8 (0 : UInt8) := by
    unfold headH logH genH stH baseH
    rw [e1, e2, e3, e4, ← ext_join s 2 4 20 (by omega) (by omega), ← ext_join s 4 8 20 (by omega) (by omega), ← ext_join s 8 12 20 (by omega) (by omega)]
    simp only [List.append_assoc]
  have hs : (s.extract 0 32).data.toList = ((s.extract 0 2).data.toList ++ (s.extract 2 20).data.toList ++ (s.extract 20 28).data.toList) ++ (s.extract 28 32).data.toList := by
    rw [ext_join s 0 2 20 (by omega) (by omega), ext_join s 0 20 28 (by omega) (by omega), ext_join s 0 28 32 (by omega) (by omega)]
  have hq : (s.extract 0 28).data.toList = (s.extract 0 2).data.toList ++ (s.extract 2 20).data.toList ++ (s.extract 20 28).data.toList := by
    rw [ext_join s 0 2 20 (by omega) (by omega), ext_join s 0 20 28 (by omega) (by omega)]
  constructor
  · intro e
    have e' : (s.extract 0 32).data.toList = headerL (logH s) (genH s) (stH s) (baseH s) := by rw [e, B_data]
    unfold headerL at e'
    rw [hs, hh] at e'
    have l1 : ((s.extract 0 2).data.toList ++ (s.extract 2 20).data.toList ++ (s.extract 20 28).data.toList).length = ([0x57, 0x53] ++ (s.extract 2 20).data.toList ++ List.replicate 8 (0 : UInt8)).length := by
      simp only [List.length_append, ext_len s _ _ (show 2 ≤ s.size by omega), ext_len s _ _ (show 20 ≤ s.size by omega), ext_len s _ _ (show 28 ≤ s.size by omega), List.length_replicate, List.length_cons, List.length_nil]
    obtain ⟨c1, c2⟩ := List.append_inj e' l1
    have l2 : ((s.extract 0 2).data.toList ++ (s.extract 2 20).data.toList).length = ([0x57, 0x53] ++ (s.extract 2 20).data.toList).length := by
      simp only [List.length_append, ext_len s _ _ (show 2 ≤ s.size by omega), List.length_cons, List.length_nil]
    obtain ⟨d1, d2⟩ := List.append_inj c1 l2
    have d3 := List.append_cancel_right d1
    refine ⟨d3, d2, ?_⟩
    rw [c2, rd_fx_nat _ 4 (crc0_lt _), hq, d3, d2]
  · rintro ⟨c1, c2, c3⟩
    rw [← B_of (s.extract 0 32), hs]
    congr 1
    unfold headerL
    rw [hh, ← c1, ← c2, ← hq, ← c3, e5]
/-- Decode of Encode: what lies ahead of whatever. -/
theorem open_header (lg gn st bs : Nat) (m : ByteArray) (h1 : lg < 65536) (h2 : gn < 4294967296) (h3 : st < 4294967296) (h4 : bs < 18446744073709551616) :
    logH (B (headerL lg gn st bs) ++ m) = lg ∧ genH (B (headerL lg gn st bs) ++ m) = gn ∧ stH (B (headerL lg gn st bs) ++ m) = st ∧ baseH (B (headerL lg gn st bs) ++ m) = bs ∧ (B (headerL lg gn st bs) ++ m).extract 0 32 = B (headerL lg gn st bs) := by
  obtain ⟨s, hs⟩ : ∃ s, B (headerL lg gn st bs) ++ m = s := ⟨_, rfl⟩
  have hl : s = B (headerL lg gn st bs ++ m.data.toList) := by rw [← hs, ← B_append, B_of]
  rw [hs]
  obtain ⟨Q, hQ⟩ : ∃ Q, fx (crc 0 (headH lg gn st bs) : Nat) 4 = Q := ⟨_, rfl⟩
  have f : ∀ n (x : Nat), (fx (x : Int) n).length = n := fun n x => fx_length _ _
  have p1 : s.extract 2 4 = B (fx (lg : Int) 2) := ext_at [0x57, 0x53] _ (fx (gn : Int) 4 ++ fx (st : Int) 4 ++ fx (bs : Int) 8 ++ List.replicate 8 (0 : UInt8) ++ Q) m.data.toList 2 4 rfl (by rw [f]; rfl) s (by rw [hl]; unfold headerL; rw [hQ]; unfold headH; simp only [List.append_assoc])
  have p2 : s.extract 4 8 = B (fx (gn : Int) 4) := ext_at ([0x57, 0x53] ++ fx (lg : Int) 2) _ (fx (st : Int) 4 ++ fx (bs : Int) 8 ++ List.replicate 8 (0 : UInt8) ++ Q) m.data.toList 4 8 (by simp [f]) (by simp [f]) s (by rw [hl]; unfold headerL; rw [hQ]; unfold headH; simp only [List.append_assoc])
  have p3 : s.extract 8 12 = B (fx (st : Int) 4) := ext_at ([0x57, 0x53] ++ fx (lg : Int) 2 ++ fx (gn : Int) 4) _ (fx (bs : Int) 8 ++ List.replicate 8 (0 : UInt8) ++ Q) m.data.toList 8 12 (by simp [f]) (by simp [f]) s (by rw [hl]; unfold headerL; rw [hQ]; unfold headH; simp only [List.append_assoc])
  have p4 : s.extract 12 20 = B (fx (bs : Int) 8) := ext_at ([0x57, 0x53] ++ fx (lg : Int) 2 ++ fx (gn : Int) 4 ++ fx (st : Int) 4) _ (List.replicate 8 (0 : UInt8) ++ Q) m.data.toList 12 20 (by simp [f]) (by simp [f]) s (by rw [hl]; unfold headerL; rw [hQ]; unfold headH; simp only [List.append_assoc])
  have p5 : s.extract 0 32 = B (headerL lg gn st bs) := ext_at [] _ [] m.data.toList 0 32 rfl (by rw [headerL_len]; rfl) s (by rw [hl]; simp)
  refine ⟨?_, ?_, ?_, ?_, p5⟩
  · unfold logH; rw [p1, B_data]; exact rd_fx_nat lg 2 h1
  · unfold genH; rw [p2, B_data]; exact rd_fx_nat gn 4 h2
  · unfold stH; rw [p3, B_data]; exact rd_fx_nat st 4 h3
  · unfold baseH; rw [p4, B_data]; exact rd_fx_nat bs 8 h4
/-- Is it a header? -/
def isH (s : ByteArray) : Prop := 1 ≤ logH s ∧ baseH s ≤ 1099511627776 ∧ s.extract 0 32 = B (headerL (logH s) (genH s) (stH s) (baseH s))
theorem isH_header (lg gn st bs : Nat) (m : ByteArray) (h0 : 1 ≤ lg) (h1 : lg < 65536) (h2 : gn < 4294967296) (h3 : st < 4294967296) (h4 : bs ≤ 1099511627776) : isH (B (headerL lg gn st bs) ++ m) := by
  obtain ⟨c1, c2, c3, c4, c5⟩ := open_header lg gn st bs m h1 h2 h3 (by omega)
  unfold isH
  rw [c1, c2, c3, c4]
  exact ⟨h0, h4, c5⟩
/-- A stamp's parts. -/
theorem stamp_parts (e c : Nat) (he : e < 65536) (hc : c < 65536) : (65536 * e + c) / 65536 = e ∧ (65536 * e + c) % 65536 = c ∧ 65536 * e + c < 4294967296 := by omega
end Go.Proofs.YtoegohofmhijgaaDoor.M

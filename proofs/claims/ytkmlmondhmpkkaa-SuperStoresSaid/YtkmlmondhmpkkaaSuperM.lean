/- Supers as bytes; nothing of the program. -/
import Derived.WalkKit
import Derived.Test.YtkmlmondhmpkkaaSealM
import Derived.Test.YtkmlmondhmpkkaaFrameB
namespace Go.Proofs.Ytkmlmondhmpkkaa.M
open Go.RowKit
set_option linter.unusedVariables false

/-- A super's numbers as bytes: Seq, Epoch, the three Gens. -/
def headU (a b c d e : Nat) : List UInt8 := [0x57, 0x4c] ++ fx (a : Int) 4 ++ fx (b : Int) 4 ++ fx (c : Int) 4 ++ fx (d : Int) 4 ++ fx (e : Int) 4
def dataU (a b c d e : Nat) : List UInt8 := headU a b c d e ++ fx (crc 0 (headU a b c d e) : Nat) 4 ++ List.replicate 26 (0 : UInt8)
def superU (a b c d e : Nat) : List UInt8 := sealL a 1 (dataU a b c d e)
theorem headU_len (a b c d e : Nat) : (headU a b c d e).length = 22 := by simp [headU, fx_length]
theorem dataU_len (a b c d e : Nat) : (dataU a b c d e).length = 52 := by simp [dataU, headU_len, fx_length]
theorem superU_len (a b c d e : Nat) : (superU a b c d e).length = 64 := by unfold superU; rw [sealL_len, dataU_len]
/-- The number I of what a sector holds. -/
def numU (x : ByteArray) (i : Nat) : Nat := rd (x.extract (2 + 4 * i) (6 + 4 * i)).data.toList
theorem numU_lt (x : ByteArray) (i : Nat) : numU x i < 4294967296 := by
  have h := rd_lt (x.extract (2 + 4 * i) (6 + 4 * i)).data.toList
  have h2 : (x.extract (2 + 4 * i) (6 + 4 * i)).data.toList.length ≤ 4 := by simp; omega
  exact Nat.lt_of_lt_of_le h (Nat.pow_le_pow_right (n := 256) (by omega) h2)
theorem num_at (p m : List UInt8) (v i : Nat) (hv : v < 4294967296) (hp : p.length = 2 + 4 * i) : numU (B (p ++ fx (v : Int) 4 ++ m)) i = v := by
  have e := ext_at p (fx (v : Int) 4) m [] (2 + 4 * i) (6 + 4 * i) hp.symm (by rw [fx_length]; omega) (B (p ++ fx (v : Int) 4 ++ m)) (by simp)
  unfold numU
  rw [e, B_data]
  exact rd_fx_nat v 4 hv
/-- What is told of the data of a super. -/
theorem nums_of (a b c d e : Nat) (ha : a < 4294967296) (hb : b < 4294967296) (hc : c < 4294967296) (hd : d < 4294967296) (he : e < 4294967296) :
    numU (B (dataU a b c d e)) 0 = a ∧ numU (B (dataU a b c d e)) 1 = b ∧ numU (B (dataU a b c d e)) 2 = c ∧ numU (B (dataU a b c d e)) 3 = d ∧ numU (B (dataU a b c d e)) 4 = e := by
  have e0 : dataU a b c d e = [0x57, 0x4c] ++ fx (a : Int) 4 ++ (fx (b : Int) 4 ++ fx (c : Int) 4 ++ fx (d : Int) 4 ++ fx (e : Int) 4 ++ (fx (crc 0 (headU a b c d e) : Nat) 4 ++ List.replicate 26 (0 : UInt8))) := by
    unfold dataU headU; simp only [List.append_assoc]
  have e1 : dataU a b c d e = ([0x57, 0x4c] ++ fx (a : Int) 4) ++ fx (b : Int) 4 ++ (fx (c : Int) 4 ++ fx (d : Int) 4 ++ fx (e : Int) 4 ++ (fx (crc 0 (headU a b c d e) : Nat) 4 ++ List.replicate 26 (0 : UInt8))) := by
    unfold dataU headU; simp only [List.append_assoc]
  have e2 : dataU a b c d e = ([0x57, 0x4c] ++ fx (a : Int) 4 ++ fx (b : Int) 4) ++ fx (c : Int) 4 ++ (fx (d : Int) 4 ++ fx (e : Int) 4 ++ (fx (crc 0 (headU a b c d e) : Nat) 4 ++ List.replicate 26 (0 : UInt8))) := by
    unfold dataU headU; simp only [List.append_assoc]
  have e3 : dataU a b c d e = ([0x57, 0x4c] ++ fx (a : Int) 4 ++ fx (b : Int) 4 ++ fx (c : Int) 4) ++ fx (d : Int) 4 ++ (fx (e : Int) 4 ++ (fx (crc 0 (headU a b c d e) : Nat) 4 ++ List.replicate 26 (0 : UInt8))) := by
    unfold dataU headU; simp only [List.append_assoc]
  have e4 : dataU a b c d e = ([0x57, 0x4c] ++ fx (a : Int) 4 ++ fx (b : Int) 4 ++ fx (c : Int) 4 ++ fx (d : Int) 4) ++ fx (e : Int) 4 ++ (fx (crc 0 (headU a b c d e) : Nat) 4 ++ List.replicate 26 (0 : UInt8)) := by
    unfold dataU headU; simp only [List.append_assoc]
  refine ⟨?_, ?_, ?_, ?_, ?_⟩
  · rw [e0]; exact num_at _ _ a 0 ha (by simp)
  · rw [e1]; exact num_at _ _ b 1 hb (by simp [fx_length])
  · rw [e2]; exact num_at _ _ c 2 hc (by simp [fx_length])
  · rw [e3]; exact num_at _ _ d 3 hd (by simp [fx_length])
  · rw [e4]; exact num_at _ _ e 4 he (by simp [fx_length])
/-- Decode of Encode: what lies in a super's sector. -/
theorem open_super (a b c d e : Nat) (ha : a < 4294967296) :
    opensS (B (superU a b c d e)) ∧ stampS (B (superU a b c d e)) = a ∧ countS (B (superU a b c d e)) = 1 ∧ (B (superU a b c d e)).extract 6 58 = B (dataU a b c d e) :=
  open_seal a 1 (dataU a b c d e) ha (by omega) (by omega) (dataU_len a b c d e)
/-- A sector is a super just if it is the one of its own numbers. -/
def isU (s : ByteArray) : Prop := s = B (superU (numU (s.extract 6 58) 0) (numU (s.extract 6 58) 1) (numU (s.extract 6 58) 2) (numU (s.extract 6 58) 3) (numU (s.extract 6 58) 4))
theorem isU_super (a b c d e : Nat) (ha : a < 4294967296) (hb : b < 4294967296) (hc : c < 4294967296) (hd : d < 4294967296) (he : e < 4294967296) : isU (B (superU a b c d e)) := by
  unfold isU
  obtain ⟨n0, n1, n2, n3, n4⟩ := nums_of a b c d e ha hb hc hd he
  rw [(open_super a b c d e ha).2.2.2, n0, n1, n2, n3, n4]
theorem isU_opens (s : ByteArray) (h : isU s) : opensS s ∧ countS s = 1 ∧ stampS s = numU (s.extract 6 58) 0 := by
  unfold isU at h
  have ho := open_super (numU (s.extract 6 58) 0) (numU (s.extract 6 58) 1) (numU (s.extract 6 58) 2) (numU (s.extract 6 58) 3) (numU (s.extract 6 58) 4) (numU_lt _ _)
  rw [← h] at ho
  exact ⟨ho.1, ho.2.2.1, ho.2.1⟩
/-- Bytes 0 are none. -/
theorem isU_zero : ¬ isU (B (List.replicate 64 (0 : UInt8))) := by
  intro h
  have := (isU_opens _ h).2.1
  rw [count_take, B_data] at this
  exact absurd this (by decide)
/-- A super torn ahead of bytes 0: none, or whole. -/
theorem torn_super (a b c d e k : Nat) (ha : a < 4294967296) (h : isU (B ((superU a b c d e).take k ++ (List.replicate 64 (0 : UInt8)).drop k))) :
    B ((superU a b c d e).take k ++ (List.replicate 64 (0 : UInt8)).drop k) = B (superU a b c d e) :=
  torn_zero a 1 (dataU a b c d e) k ha (by omega) (by omega) (dataU_len a b c d e) (isU_opens _ h).1
/-- What a reader of the fields looks at: is it a super? -/
theorem isU_fields (s : ByteArray) (ho : opensS s) (h1 : countS s = 1) (h2 : stampS s = numU (s.extract 6 58) 0)
    (h3 : ((s.extract 6 58).extract 0 2).data.toList = [0x57, 0x4c])
    (h4 : numU (s.extract 6 58) 5 = crc 0 ((s.extract 6 58).extract 0 22).data.toList)
    (h5 : ((s.extract 6 58).extract 26 52).data.toList = List.replicate 26 (0 : UInt8)) : isU s := by
  have hx : (s.extract 6 58).size = 52 := by have := ho.1; simp; omega
  have hw := (seal_same s ho.1).2 ho.2.2
  unfold isU superU
  conv => lhs; rw [← hw]
  rw [h1, h2]
  generalize s.extract 6 58 = x at *
  refine congrArg (fun l => B (sealL (numU x 0) 1 l)) ?_
  have el : ∀ i, i < 6 → fx (numU x i : Nat) 4 = (x.extract (2 + 4 * i) (6 + 4 * i)).data.toList := fun i hi => by
    have e := fx_rd (x.extract (2 + 4 * i) (6 + 4 * i)).data.toList
    rw [show (x.extract (2 + 4 * i) (6 + 4 * i)).data.toList.length = 4 from by simp; omega] at e
    exact e
  have hh : headU (numU x 0) (numU x 1) (numU x 2) (numU x 3) (numU x 4) = (x.extract 0 22).data.toList := by
    unfold headU
    rw [el 0 (by omega), el 1 (by omega), el 2 (by omega), el 3 (by omega), el 4 (by omega), ← h3]
    simp only [ext_list]
    have hl : ∀ i : Nat, (x.data.toList.take i) ++ (x.data.toList.drop i).take 4 = x.data.toList.take (i + 4) := fun i => (List.take_add ..).symm
    show ((((((x.data.toList.drop 0).take 2 ++ (x.data.toList.drop 2).take 4) ++ (x.data.toList.drop 6).take 4) ++ (x.data.toList.drop 10).take 4) ++ (x.data.toList.drop 14).take 4) ++ (x.data.toList.drop 18).take 4) = (x.data.toList.drop 0).take 22
    rw [List.drop_zero, hl 2, hl 6, hl 10, hl 14, hl 18]
  unfold dataU
  rw [hh, ← h4, el 5 (by omega), ← h5]
  simp only [ext_list]
  show x.data.toList = (((x.data.toList.drop 0).take 22 ++ (x.data.toList.drop 22).take 4) ++ (x.data.toList.drop 26).take 26)
  have hl : x.data.toList.length = 52 := by simpa using hx
  rw [List.drop_zero, ← List.take_add, ← List.take_add, List.take_of_length_le (by omega)]
/-- And what it then finds. -/
theorem data_fields (a b c d e : Nat) (x : ByteArray) (hx : x = B (dataU a b c d e)) :
    (x.extract 0 2).data.toList = [0x57, 0x4c] ∧ numU x 5 = crc 0 (x.extract 0 22).data.toList ∧ (x.extract 26 52).data.toList = List.replicate 26 (0 : UInt8) := by
  have hl := headU_len a b c d e
  have e22 : x.extract 0 22 = B (headU a b c d e) :=
    ext_at [] (headU a b c d e) (fx (crc 0 (headU a b c d e) : Nat) 4) (List.replicate 26 (0 : UInt8)) 0 22 rfl (by simp [hl]) x (by rw [hx]; rfl)
  have ez : x.extract 26 52 = B (List.replicate 26 (0 : UInt8)) :=
    ext_at (headU a b c d e ++ fx (crc 0 (headU a b c d e) : Nat) 4) (List.replicate 26 (0 : UInt8)) [] [] 26 52 (by simp [hl, fx_length]) (by simp [hl, fx_length]) x (by rw [hx]; unfold dataU; simp)
  have e2 : x.extract 0 2 = B [0x57, 0x4c] :=
    ext_at [] [0x57, 0x4c] (fx (a : Int) 4 ++ fx (b : Int) 4 ++ fx (c : Int) 4 ++ fx (d : Int) 4 ++ fx (e : Int) 4) (fx (crc 0 (headU a b c d e) : Nat) 4 ++ List.replicate 26 (0 : UInt8)) 0 2 rfl rfl x
      (by rw [hx]; unfold dataU headU; simp only [List.append_assoc, List.nil_append])
  refine ⟨by rw [e2, B_data], ?_, by rw [ez, B_data]⟩
  rw [e22, B_data, hx]
  exact num_at (headU a b c d e) (List.replicate 26 (0 : UInt8)) (crc 0 (headU a b c d e)) 5 (crc_lt _ _) hl
theorem fields_isU (s : ByteArray) (h : isU s) :
    ((s.extract 6 58).extract 0 2).data.toList = [0x57, 0x4c] ∧ numU (s.extract 6 58) 5 = crc 0 ((s.extract 6 58).extract 0 22).data.toList ∧ ((s.extract 6 58).extract 26 52).data.toList = List.replicate 26 (0 : UInt8) := by
  have ho := open_super (numU (s.extract 6 58) 0) (numU (s.extract 6 58) 1) (numU (s.extract 6 58) 2) (numU (s.extract 6 58) 3) (numU (s.extract 6 58) 4) (numU_lt _ _)
  unfold isU at h
  rw [← h] at ho
  exact data_fields _ _ _ _ _ _ ho.2.2.2
end Go.Proofs.Ytkmlmondhmpkkaa.M

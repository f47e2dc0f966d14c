/- Seals as numbers, sealed sectors as cells; nothing of the program. -/
import Derived.WalkKit
import Derived.Test.YtkmlmondhmpkkaaSealM
import Derived.Test.YtkmlmondhmpkkaaFlat
namespace Go.Proofs.Ytkmlmondhmpkkaa.M
open Go.RowKit
open Go.Proofs.Ytkmlmondhmpkkaa.D
set_option linter.unusedVariables false

theorem rd_append (a b : List UInt8) : rd (a ++ b) = rd a * 256 ^ b.length + rd b := by
  have := rd_go b (rd a)
  unfold rd at this ⊢
  rw [List.foldl_append]; exact this
theorem rd_seal (st c : Nat) (h1 : st < 4294967296) (h2 : c < 65536) : rd (sealB st c) = st * 65536 + c := by
  unfold sealB
  rw [rd_append, rd_fx_nat st 4 h1, rd_fx_nat c 2 h2, fx_length]
theorem seal_num (st c : Nat) (h1 : st < 4294967296) (h2 : c < 65536) : fx ((st * 65536 + c : Nat) : Int) 6 = sealB st c := by
  have h := fx_rd (sealB st c)
  rw [rd_seal st c h1 h2, sealB_len] at h
  exact h
theorem told_num (s : ByteArray) (h : 6 ≤ s.size) : rd (s.extract 0 6).data.toList = stampS s * 65536 + countS s := by
  rw [← first_six s h]
  exact rd_seal _ _ (stampS_lt s) (countS_lt s)
theorem seal_or (st c : Nat) (h1 : st < 4294967296) (h2 : c < 65536) : bits .or .u64 ((st : Int) * 65536) (c : Int) = ((st * 65536 + c : Nat) : Int) := by
  rw [show (st : Int) * 65536 = ((st * 65536 : Nat) : Int) from by omega, u64_or_nat _ _ (by omega) (by omega), nat_join 16 _ _ (by omega) (by omega)]
/-- A sector that is laid in three pieces. -/
theorem three_splices (a d : List UInt8) (ha : a.length = 6) (hd : d.length = 52) :
    splice (splice (splice (List.replicate 64 (Value.int .u8 0)) 0 (bytesV a)) 6 (bytesV d)) 58 (bytesV a) = bytesV (a ++ d ++ a) := by
  have l1 := bytesV_len a
  have l2 := bytesV_len d
  rw [ha] at l1
  rw [hd] at l2
  have e1 : splice (List.replicate 64 (Value.int .u8 0)) 0 (bytesV a) = bytesV a ++ List.replicate 58 (Value.int .u8 0) := by
    unfold splice
    rw [List.take_zero, List.nil_append, l1, List.drop_replicate]
  have e2 : splice (bytesV a ++ List.replicate 58 (Value.int .u8 0)) 6 (bytesV d) = (bytesV a ++ bytesV d) ++ List.replicate 6 (Value.int .u8 0) := by
    unfold splice
    rw [List.take_append_of_le_length (by omega), List.take_of_length_le (by omega), l2, List.drop_append, List.drop_of_length_le (by omega), List.nil_append, l1, List.drop_replicate, List.append_assoc]
  have e3 : splice ((bytesV a ++ bytesV d) ++ List.replicate 6 (Value.int .u8 0)) 58 (bytesV a) = (bytesV a ++ bytesV d) ++ bytesV a := by
    have l3 : (bytesV a ++ bytesV d).length = 58 := by rw [List.length_append, l1, l2]
    unfold splice
    rw [List.take_append_of_le_length (by omega), List.take_of_length_le (by omega), l1, List.drop_append, List.drop_of_length_le (by omega), List.nil_append, l3, List.drop_replicate]
    simp
  rw [e1, e2, e3]
  unfold bytesV
  rw [List.map_append, List.map_append]
end Go.Proofs.Ytkmlmondhmpkkaa.M

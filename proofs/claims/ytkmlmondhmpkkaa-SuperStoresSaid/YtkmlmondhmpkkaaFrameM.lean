/- Frames as bytes; nothing of the program. -/
import Derived.WalkKit
import Derived.Test.YtkmlmondhmpkkaaSum
namespace Go.Proofs.Ytkmlmondhmpkkaa.M
open Go.RowKit
set_option linter.unusedVariables false

/-- What a frame's CRC sums. -/
def sumB (stamp pl : Int) (cnt body : List UInt8) : List UInt8 := fx stamp 4 ++ fx pl 2 ++ cnt ++ body
/-- Its CRC as bytes. -/
def sumF (stamp pl : Int) (cnt body : List UInt8) : List UInt8 := fx (crc 0 (sumB stamp pl cnt body) : Nat) 4
def bodyF (k : Int) (p : List UInt8) : List UInt8 := fx k 1 ++ p
def cntF (p : List UInt8) : List UInt8 := fx ((p.length + 1 : Nat) : Int) 2
def encF (stamp pl k : Int) (p : List UInt8) : List UInt8 := cntF p ++ sumF stamp pl (cntF p) (bodyF k p) ++ bodyF k p

theorem bodyF_len (k : Int) (p : List UInt8) : (bodyF k p).length = 1 + p.length := by simp [bodyF, fx_length]
theorem cntF_len (p : List UInt8) : (cntF p).length = 2 := fx_length _ _
theorem sumF_len (stamp pl : Int) (c b : List UInt8) : (sumF stamp pl c b).length = 4 := fx_length _ _
theorem encF_len (stamp pl k : Int) (p : List UInt8) : (encF stamp pl k p).length = 7 + p.length := by
  unfold encF
  rw [List.length_append, List.length_append, bodyF_len, cntF_len, sumF_len]; omega

/-- The bytes of the first k strings. -/
def cats (ss : List ByteArray) : Nat → List UInt8
  | 0 => []
  | k + 1 => cats ss k ++ (ss.getD k ByteArray.empty).data.toList
theorem fits_small (a n : Int) (h : a / 256 ^ n.toNat = 0) (h1 : 1 ≤ n) (h2 : n ≤ 8) : fitsB a n = true := by unfold fitsB; simp; exact ⟨h1, h2, h⟩

/-- Why a frame is none. -/
def wrongF (pl k : Int) (n : Nat) : Int := if k < 1 ∨ 255 < k ∨ ¬ (1 ≤ pl ∧ pl < 16) then 1 else if 773 < n then 2 else 0
theorem wrongF_arg {pl k : Int} {n : Nat} (h : k < 1 ∨ 255 < k ∨ ¬ (1 ≤ pl ∧ pl < 16)) : wrongF pl k n = 1 := by unfold wrongF; rw [if_pos h]
theorem wrongF_long {pl k : Int} {n : Nat} (h : ¬ (k < 1 ∨ 255 < k ∨ ¬ (1 ≤ pl ∧ pl < 16))) (h2 : 773 < n) : wrongF pl k n = 2 := by unfold wrongF; rw [if_neg h, if_pos h2]
theorem wrongF_no {pl k : Int} {n : Nat} (h : ¬ (k < 1 ∨ 255 < k ∨ ¬ (1 ≤ pl ∧ pl < 16))) (h2 : ¬ 773 < n) : wrongF pl k n = 0 := by unfold wrongF; rw [if_neg h, if_neg h2]
theorem place_no {pl : Int} (h : ¬ (1 ≤ pl ∧ pl < 16)) : (decide (1 ≤ pl) && decide (pl < 16)) = false := by simp; omega
theorem place_yes {pl : Int} (h : 1 ≤ pl ∧ pl < 16) : (decide (1 ≤ pl) && decide (pl < 16)) = true := by simp; omega

/-- What the first two bytes tell. -/
def toldF (s : ByteArray) : Nat := rd (s.extract 0 2).data.toList
/-- The body, of what they tell. -/
def bodyS (s : ByteArray) : ByteArray := s.extract 6 (6 + toldF s)
/-- Why bytes begin with no frame. -/
def decWhy (st pl : Int) (s : ByteArray) : Int :=
  if ¬ (1 ≤ pl ∧ pl < 16) then 1 else if s.size < 2 then 3 else if toldF s = 0 then 6 else if 774 < toldF s then 2 else if s.size < 6 + toldF s then 3
  else if bt s.data.toList 6 = 0 ∨ s.extract 2 6 ≠ B (sumF st pl (s.extract 0 2).data.toList (bodyS s).data.toList) then 4 else 0
/-- The frame, how many bytes, the error. -/
def decK (st pl : Int) (s : ByteArray) : Int := if decWhy st pl s = 0 then (bt s.data.toList 6 : Nat) else 0
def decP (st pl : Int) (s : ByteArray) : ByteArray := if decWhy st pl s = 0 then s.extract 7 (6 + toldF s) else ⟨#[]⟩
def decN (st pl : Int) (s : ByteArray) : Int := if decWhy st pl s = 0 then ((6 + toldF s : Nat) : Int) else 0
theorem decNo {st pl : Int} {s : ByteArray} {x : Int} (h : decWhy st pl s = x) (hx : x ≠ 0) : decK st pl s = 0 ∧ decP st pl s = ⟨#[]⟩ ∧ decN st pl s = 0 := by
  unfold decK decP decN
  rw [h, if_neg hx, if_neg hx, if_neg hx]; exact ⟨rfl, rfl, rfl⟩
theorem decYes {st pl : Int} {s : ByteArray} (h : decWhy st pl s = 0) : decK st pl s = (bt s.data.toList 6 : Nat) ∧ decP st pl s = s.extract 7 (6 + toldF s) ∧ decN st pl s = ((6 + toldF s : Nat) : Int) := by
  unfold decK decP decN
  rw [if_pos h, if_pos h, if_pos h]; exact ⟨rfl, rfl, rfl⟩
theorem toldF_lt (s : ByteArray) : toldF s < 65536 := by
  have h := rd_lt (s.extract 0 2).data.toList
  have h2 : (s.extract 0 2).data.toList.length ≤ 2 := by simp; omega
  unfold toldF
  exact Nat.lt_of_lt_of_le h (Nat.pow_le_pow_right (n := 256) (by omega) h2)
theorem bt_extract (s : ByteArray) (a b i : Nat) (h1 : a + i < b) (h2 : b ≤ s.size) : bt (s.extract a b).data.toList i = bt s.data.toList (a + i) := by
  rw [← bt_of _ i (by simp; omega), ← bt_of _ (a + i) (by omega)]
  simp [ByteArray.getElem_extract]
theorem bytes_ne {a b : ByteArray} (h : a ≠ b) : (a.toList == b.toList) = false := by
  rw [beq_eq_false_iff_ne]
  intro e
  rw [ByteArray.toList_eq, ByteArray.toList_eq] at e
  exact h (ByteArray.ext (Array.toList_inj.1 e))
theorem bytes_eq {a b : ByteArray} (h : a = b) : (a.toList == b.toList) = true := by rw [h, beq_iff_eq]
theorem fx_one (k : Int) (h0 : 0 ≤ k) (h1 : k ≤ 255) : fx k 1 = [UInt8.ofNat k.toNat] := by
  have e : k / 256 ^ 0 % 256 = k := by simp; omega
  show [UInt8.ofNat (k / 256 ^ 0 % 256).toNat] = _
  rw [e]
theorem cntF_of (p : ByteArray) : cntF p.data.toList = fx ((p.size : Int) + 1) 2 := by
  unfold cntF
  rw [show p.data.toList.length = p.size from by simp]; rfl
theorem sum_cat (st pl k : Int) (p : ByteArray) (h0 : 0 ≤ k) (h1 : k ≤ 255) :
    B (fx st 4) ++ B (fx pl 2) ++ B (fx ((p.size : Int) + 1) 2) ++ B [UInt8.ofNat k.toNat] ++ p = B (sumB st pl (cntF p.data.toList) (bodyF k p.data.toList)) := by
  rw [cntF_of]
  generalize hc : fx ((p.size : Int) + 1) 2 = c
  unfold sumB bodyF
  rw [fx_one k h0 h1]
  conv => lhs; rw [← B_of p]
  rw [B_append, B_append, B_append, B_append]
  simp
theorem enc_cat (st pl k : Int) (p : ByteArray) (h0 : 0 ≤ k) (h1 : k ≤ 255) :
    B (fx ((p.size : Int) + 1) 2) ++ B (fx (crc 0 (sumB st pl (cntF p.data.toList) (bodyF k p.data.toList)) : Nat) 4) ++ B [UInt8.ofNat k.toNat] ++ p = B (encF st pl k p.data.toList) := by
  unfold encF sumF
  rw [cntF_of]
  generalize hc : fx ((p.size : Int) + 1) 2 = c
  generalize hq : fx (crc 0 (sumB st pl c (bodyF k p.data.toList)) : Nat) 4 = q
  unfold bodyF
  rw [fx_one k h0 h1]
  conv => lhs; rw [← B_of p]
  rw [B_append, B_append, B_append]
  simp
end Go.Proofs.Ytkmlmondhmpkkaa.M

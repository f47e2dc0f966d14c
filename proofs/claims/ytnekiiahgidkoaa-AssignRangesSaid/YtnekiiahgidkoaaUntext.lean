/- Texts with their lengths; nothing of the program. -/
import Derived.WalkKit
import Derived.Test.YtnekiiahgidkoaaUnchain
namespace Go.Proofs.Ytnekiiahgidkoaa.M
open Go.RowKit
set_option linter.unusedVariables false

/-- A text with its length. -/
def textL (l : List UInt8) : List UInt8 := chain l.length ++ l
/-- What Untext tells: the text, how many bytes all of it has, the error. -/
def untx (s : ByteArray) : ByteArray × Int × Int :=
  if (unch s.data.toList).2.2 ≠ 0 then (B [], 0, (unch s.data.toList).2.2)
  else if 1099511627776 < (unch s.data.toList).1 then (B [], 0, 2)
  else if (s.size : Int) - (unch s.data.toList).2.1 < (unch s.data.toList).1 then (B [], 0, 3)
  else (s.extract (unch s.data.toList).2.1.toNat ((unch s.data.toList).2.1 + (unch s.data.toList).1).toNat, (unch s.data.toList).2.1 + (unch s.data.toList).1, 0)

theorem unch_facts (l : List UInt8) : 0 ≤ (unch l).1 ∧ (unch l).1 < 18446744073709551616 ∧
    (((unch l).2.2 = 0 ∧ 1 ≤ (unch l).2.1 ∧ (unch l).2.1 ≤ l.length ∧ (unch l).2.1 ≤ 10) ∨ ((unch l).2.2 ≠ 0 ∧ (unch l).1 = 0 ∧ (unch l).2.1 = 0 ∧ ((unch l).2.2 = 3 ∨ (unch l).2.2 = 4))) := by
  have h1 := lead_le 10 l
  unfold unch
  by_cases c1 : lead 10 l = 10 ∨ (lead 10 l = 9 ∧ 9 < l.length ∧ 1 < bt l 9)
  · rw [if_pos c1]; simp
  · rw [if_neg c1]
    by_cases c2 : lead 10 l = l.length
    · rw [if_pos c2]; simp
    · rw [if_neg c2]
      by_cases c3 : 0 < lead 10 l ∧ bt l (lead 10 l) = 0
      · rw [if_pos c3]; simp
      · rw [if_neg c3]
        refine ⟨val_lo _ _, val_64 l (lead 10 l + 1) ?_, .inl ⟨rfl, ?_, ?_, ?_⟩⟩
        · by_cases e : lead 10 l = 9
          · exact .inr ⟨by omega, by omega⟩
          · exact .inl (by omega)
        · show (1 : Int) ≤ ((lead 10 l + 1 : Nat) : Int); omega
        · show ((lead 10 l + 1 : Nat) : Int) ≤ _; omega
        · show ((lead 10 l + 1 : Nat) : Int) ≤ _; omega

theorem untx_err (s : ByteArray) (v n e : Int) (h : unch s.data.toList = (v, n, e)) (he : e ≠ 0) : untx s = (B [], 0, e) := by
  unfold untx; rw [h]; exact if_pos he
theorem untx_long (s : ByteArray) (v n : Int) (h : unch s.data.toList = (v, n, 0)) (hv : 1099511627776 < v) : untx s = (B [], 0, 2) := by
  unfold untx; rw [h, if_neg (by simp), if_pos hv]
theorem untx_short (s : ByteArray) (v n : Int) (h : unch s.data.toList = (v, n, 0)) (hv : v ≤ 1099511627776) (hs : (s.size : Int) - n < v) : untx s = (B [], 0, 3) := by
  unfold untx; rw [h, if_neg (by simp), if_neg (by simpa using hv), if_pos hs]
theorem untx_some (s : ByteArray) (v n : Int) (h : unch s.data.toList = (v, n, 0)) (hv : v ≤ 1099511627776) (hs : v ≤ (s.size : Int) - n) : untx s = (s.extract n.toNat (n + v).toNat, n + v, 0) := by
  unfold untx; rw [h, if_neg (by simp), if_neg (by simpa using hv), if_neg (by simpa using hs)]
end Go.Proofs.Ytnekiiahgidkoaa.M

/- Package header's stamps and parts. -/
import Derived.WalkKit
import Derived.Test.YtoegohofmhijgaaProg
import Derived.Test.YtoegohofmhijgaaWorld
import Derived.Test.YtoegohofmhijgaaLowNum
import Derived.Lib.Hide
namespace Go.Proofs.Ytoegohofmhijgaa.W
open Go.RowKit
open Go.Proofs.Ytoegohofmhijgaa.M
set_option linter.unusedVariables false

theorem stamp_or (e c : Nat) (h1 : e < 65536) (h2 : c < 65536) : bits .or .u32 ((e : Int) * 65536) (c : Int) = ((65536 * e + c : Nat) : Int) := by
  have he : ((e : Int) * 65536) = ((65536 * e : Nat) : Int) := by omega
  have ho : (65536 * e) ||| c = 65536 * e + c := by
    have := Nat.two_pow_add_eq_or_of_lt (i := 16) (show c < 2 ^ 16 by omega) e
    rw [show (2 : Nat) ^ 16 = 65536 from rfl] at this
    exact this.symm
  rw [he, ← ho]
  exact u32_or_nat (65536 * e) c (by omega) (by omega)
theorem isPart_any (n : Int) (w : World) :
    Calls Try.prog 37 #[.int .i64 n] w fun e w' => e = .returned (.bool (decide (0 ≤ n ∧ n ≤ 65535))) ∧ w = w' := by
  go_enter Try.func37, Try.ntmps37
  by_cases h0 : 0 ≤ n
  · by_cases h1 : n ≤ 65535
    · have e1 : decide (0 ≤ n ∧ n ≤ 65535) = true := by simp [h0, h1]
      rw [e1]
      go_wp2_with fail
      go_ret
      exact ⟨rfl, rfl⟩
    · have e1 : decide (0 ≤ n ∧ n ≤ 65535) = false := by simp [h1]
      rw [e1]
      have h2 : 65535 < n := by omega
      go_wp2_with fail
      go_ret
      exact ⟨rfl, rfl⟩
  · have e1 : decide (0 ≤ n ∧ n ≤ 65535) = false := by simp [h0]
    rw [e1]
    have h2 : n < 0 := by omega
    go_wp2_with fail
    go_ret
    exact ⟨rfl, rfl⟩
theorem stamp_yes (e c : Nat) (w : World) (he : e < 65536) (hc : c < 65536) :
    Calls Try.prog 36 #[.int .i64 e, .int .i64 c] w fun x w' => x = .returned (.tuple #[.int .u32 ((65536 * e + c : Nat) : Int), .int .i64 0]) ∧ w = w' := by
  have p1 : decide (0 ≤ (e : Int) ∧ (e : Int) ≤ 65535) = true := by simp; omega
  have p2 : decide (0 ≤ (c : Int) ∧ (c : Int) ≤ 65535) = true := by simp; omega
  go_enter Try.func36, Try.ntmps36
  go_wp2_with fail
  refine (isPart_any _ _).mono ?_
  rintro ee w1 ⟨rfl, rfl⟩
  rw [p1]
  go_wp2_with fail
  refine (isPart_any _ _).mono ?_
  rintro ee w1 ⟨rfl, rfl⟩
  rw [p2]
  go_wp2_with fail
  go_ret2
  exact ⟨ret_two (val_int (stamp_or e c he hc)) rfl, rfl⟩
theorem stamp_no (e c : Int) (w : World) (h : ¬ (0 ≤ e ∧ e ≤ 65535 ∧ 0 ≤ c ∧ c ≤ 65535)) :
    Calls Try.prog 36 #[.int .i64 e, .int .i64 c] w fun x w' => x = .returned (.tuple #[.int .u32 0, .int .i64 1]) ∧ w = w' := by
  go_enter Try.func36, Try.ntmps36
  go_wp2_with fail
  refine (isPart_any _ _).mono ?_
  rintro ee w1 ⟨rfl, rfl⟩
  by_cases h1 : 0 ≤ e ∧ e ≤ 65535
  · rw [show decide (0 ≤ e ∧ e ≤ 65535) = true from by simpa using h1]
    go_wp2_with fail
    refine (isPart_any _ _).mono ?_
    rintro ee w1 ⟨rfl, rfl⟩
    rw [show decide (0 ≤ c ∧ c ≤ 65535) = false from by rw [decide_eq_false_iff_not]; omega]
    go_wp2_with fail
    go_ret2
    exact ⟨rfl, rfl⟩
  · rw [show decide (0 ≤ e ∧ e ≤ 65535) = false from by rw [decide_eq_false_iff_not]; exact h1]
    go_wp2_with fail
    go_ret2
    exact ⟨rfl, rfl⟩
end Go.Proofs.Ytoegohofmhijgaa.W

/- Package header's stamps and parts. The small walks of package header and of its definition: numbers, what may be, what comes ahead. -/
import Derived.WalkKit
import Derived.Test.YtgogackkeodciabGreatDoorProg
import Derived.Test.YtgogackkeodciabGreatDoorWorld
import Derived.Test.YtgogackkeodciabGreatDoorFixed
import Derived.Lib.Hide
import Derived.Test.YtgogackkeodciabGreatDoorCells
import Derived.Test.YtgogackkeodciabGreatDoorHeaderM
section
namespace Go.Proofs.YtgogackkeodciabGreatDoor.W
open Go.RowKit
open Go.Proofs.YtgogackkeodciabGreatDoor.M
set_option linter.unusedVariables false

theorem stamp_or (e c : Nat) (h1 : e < 65536) (h2 : c < 65536) : bits .or .u32 ((e : Int) * 65536) (c : Int) = ((65536 * e + c : Nat) : Int) := by
  have he : ((e : Int) * 65536) = ((65536 * e : Nat) : Int) := by omega
  have ho : (65536 * e) ||| c = 65536 * e + c := by
    have := Nat.two_pow_add_eq_or_of_lt (i := 16) (show c < 2 ^ 16 by omega) e
    rw [show (2 : Nat) ^ 16 = 65536 from rfl] at this
    exact this.symm
  rw [he, ← ho]
  exact u32_or_nat (65536 * e) c (by omega) (by omega)
theorem isPart_any (n : Int) (w : World) :
    Calls Tryz.prog 81 #[.int .i64 n] w fun e w' => e = .returned (.bool (decide (0 ≤ n ∧ n ≤ 65535))) ∧ w = w' := by
  go_enter Tryz.func81, Tryz.ntmps81
  by_cases h0 : 0 ≤ n
  · by_cases h1 : n ≤ 65535
    · have e1 : decide (0 ≤ n ∧ n ≤ 65535) = true := by simp [h0, h1]
      rw [e1]
      go_wp2_with fail
      go_ret
      exact ⟨rfl, rfl⟩
    · have e1 : decide (0 ≤ n ∧ n ≤ 65535) = false := by simp [h1]
      rw [e1]
      have h2 : 65535 < n := by omega
      go_wp2_with fail
      go_ret
      exact ⟨rfl, rfl⟩
  · have e1 : decide (0 ≤ n ∧ n ≤ 65535) = false := by simp [h0]
    rw [e1]
    have h2 : n < 0 := by omega
    go_wp2_with fail
    go_ret
    exact ⟨rfl, rfl⟩
theorem stamp_yes (e c : Nat) (w : World) (he : e < 65536) (hc : c < 65536) :
    Calls Tryz.prog 61 #[.int .i64 e, .int .i64 c] w fun x w' => x = .returned (.tuple #[.int .u32 ((65536 * e + c : Nat) : Int), .int .i64 0]) ∧ w = w' := by
  have p1 : decide (0 ≤ (e : Int) ∧ (e : Int) ≤ 65535) = true := by simp; omega
  have p2 : decide (0 ≤ (c : Int) ∧ (c : Int) ≤ 65535) = true := by simp; omega
  go_enter Tryz.func61, Tryz.ntmps61
  go_wp2_with fail
  refine (isPart_any _ _).mono ?_
  rintro ee w1 ⟨rfl, rfl⟩
  rw [p1]
  go_wp2_with fail
  refine (isPart_any _ _).mono ?_
  rintro ee w1 ⟨rfl, rfl⟩
  rw [p2]
  go_wp2_with fail
  go_ret2
  exact ⟨ret_two (val_int (stamp_or e c he hc)) rfl, rfl⟩
theorem stamp_no (e c : Int) (w : World) (h : ¬ (0 ≤ e ∧ e ≤ 65535 ∧ 0 ≤ c ∧ c ≤ 65535)) :
    Calls Tryz.prog 61 #[.int .i64 e, .int .i64 c] w fun x w' => x = .returned (.tuple #[.int .u32 0, .int .i64 1]) ∧ w = w' := by
  go_enter Tryz.func61, Tryz.ntmps61
  go_wp2_with fail
  refine (isPart_any _ _).mono ?_
  rintro ee w1 ⟨rfl, rfl⟩
  by_cases h1 : 0 ≤ e ∧ e ≤ 65535
  · rw [show decide (0 ≤ e ∧ e ≤ 65535) = true from by simpa using h1]
    go_wp2_with fail
    refine (isPart_any _ _).mono ?_
    rintro ee w1 ⟨rfl, rfl⟩
    rw [show decide (0 ≤ c ∧ c ≤ 65535) = false from by rw [decide_eq_false_iff_not]; omega]
    go_wp2_with fail
    go_ret2
    exact ⟨rfl, rfl⟩
  · rw [show decide (0 ≤ e ∧ e ≤ 65535) = false from by rw [decide_eq_false_iff_not]; exact h1]
    go_wp2_with fail
    go_ret2
    exact ⟨rfl, rfl⟩
end Go.Proofs.YtgogackkeodciabGreatDoor.W
end
section
namespace Go.Proofs.YtgogackkeodciabGreatDoor.W
open Go.RowKit
open Go.Proofs.YtgogackkeodciabGreatDoor.M Go.Proofs.YtgogackkeodciabGreatDoor.D Go.Proofs.YtgogackkeodciabGreatDoor.Z
set_option linter.unusedVariables false

/-- May there be such a header? -/
def okH (a b : Int) : Bool := decide (1 ≤ a ∧ a ≤ 65535 ∧ 0 ≤ b ∧ b ≤ 1099511627776)
theorem mayBe_any (a g s b : Int) (w : World) :
    Calls Tryz.prog 67 #[.agg #[.int .i64 a, .int .u32 g, .int .u32 s, .int .i64 b]] w fun x w' => x = .returned (.bool (okH a b)) ∧ Below w.heap.size w w' := by
  have hB := Lib.hid (grewAlloc (Below.refl _ w) (.cells #[.int .i64 a, .int .u32 g, .int .u32 s, .int .i64 b] 80))
  obtain ⟨r, hr⟩ : ∃ r, Hid (okH a b = r) := ⟨_, Lib.hid rfl⟩
  rw [hr.out]
  have hq := hr.out
  unfold okH at hq
  go_enter Tryz.func67, Tryz.ntmps67
  by_cases h0 : 1 ≤ a
  · by_cases h1 : a ≤ 65535
    · by_cases h2 : 0 ≤ b
      · by_cases h3 : b ≤ 1099511627776
        · obtain rfl : r = true := by rw [← hq]; simp [h0, h1, h2, h3]
          clear hq hr
          go_wp2_with fail
          go_ret
          exact ⟨rfl, hB.out⟩
        · obtain rfl : r = false := by rw [← hq]; simp [h3]
          have h4 : 1099511627776 < b := by omega
          clear hq hr
          go_wp2_with fail
          go_ret
          exact ⟨rfl, hB.out⟩
      · obtain rfl : r = false := by rw [← hq]; simp [h2]
        have h4 : b < 0 := by omega
        clear hq hr
        go_wp2_with fail
        go_ret
        exact ⟨rfl, hB.out⟩
    · obtain rfl : r = false := by rw [← hq]; simp [h1]
      have h4 : 65535 < a := by omega
      clear hq hr
      go_wp2_with fail
      go_ret
      exact ⟨rfl, hB.out⟩
  · obtain rfl : r = false := by rw [← hq]; simp [h0]
    have h4 : a < 1 := by omega
    clear hq hr
    go_wp2_with fail
    go_ret
    exact ⟨rfl, hB.out⟩
theorem before_any (a g s b a' g' s' b' : Int) (w : World) :
    Calls Tryz.prog 70 #[.agg #[.int .i64 a, .int .u32 g, .int .u32 s, .int .i64 b], .agg #[.int .i64 a', .int .u32 g', .int .u32 s', .int .i64 b']] w fun x w' => x = .returned (.bool (decide (b < b' ∨ b = b' ∧ s < s'))) ∧ Below w.heap.size w w' := by
  have hB := Lib.hid (grewAlloc (grewAlloc (Below.refl _ w) (.cells #[.int .i64 a, .int .u32 g, .int .u32 s, .int .i64 b] 80)) (.cells #[.int .i64 a', .int .u32 g', .int .u32 s', .int .i64 b'] 80))
  go_enter Tryz.func70, Tryz.ntmps70
  by_cases h0 : b = b'
  · subst h0
    rw [show decide (b < b ∨ b = b ∧ s < s') = decide (s < s') from by rw [decide_eq_decide]; omega]
    go_wp2_with fail
    go_ret
    exact ⟨rfl, hB.out⟩
  · rw [show decide (b < b' ∨ b = b' ∧ s < s') = decide (b < b') from by rw [decide_eq_decide]; omega]
    have h1 : (b != b') = true := by simp [h0]
    go_wp2_with fail
    go_ret
    exact ⟨rfl, hB.out⟩
theorem numbersOfH_any (a g s b : Nat) (w : World) (ha : a < 65536) (hg : g < 4294967296) (hs : s < 4294967296) (hb : b ≤ 1099511627776) :
    Calls Tryz.prog 68 #[.agg #[.int .i64 (a : Int), .int .u32 (g : Int), .int .u32 (s : Int), .int .i64 (b : Int)]] w fun x w' => x = .returned (.agg #[.int .u64 (a : Int), .int .u64 (g : Int), .int .u64 (s : Int), .int .u64 (b : Int)]) ∧ Below w.heap.size w w' := by
  have hB := Lib.hid (grewAlloc (grewAlloc (Below.refl _ w) (.cells #[.int .i64 (a : Int), .int .u32 (g : Int), .int .u32 (s : Int), .int .i64 (b : Int)] 80)) (.cells #[.int .u64 (a : Int), .int .u64 (g : Int), .int .u64 (s : Int), .int .u64 (b : Int)] 108))
  go_enter Tryz.func68, Tryz.ntmps68
  go_wp2_with fail
  exact bodyPost_ret (v := .agg #[.int .u64 (a : Int), .int .u64 (g : Int), .int .u64 (s : Int), .int .u64 (b : Int)]) (by simp [results, Tryz.results68, go_sem]) rfl ⟨rfl, hB.out⟩
theorem hFixed_any (v : Int) (n : Int) (w : World) (h0 : 0 ≤ v) (h1 : v < 18446744073709551616) (hf : fitsB v n = true) :
    Calls Tryz.prog 82 #[.int .u64 v, .int .i64 n] w fun e w' => e = .returned (.string (B (fx v n.toNat))) ∧ Below w.heap.size w w' := by
  replace hf := Lib.hid hf
  go_enter Tryz.func82, Tryz.ntmps82
  go_wp2_with fail
  refine (fixed_yes v n _ h0 h1 hf.out).mono ?_
  rintro e w1 ⟨rfl, hb⟩
  go_wp2_with fail
  go_ret
  exact ⟨rfl, hb⟩
end Go.Proofs.YtgogackkeodciabGreatDoor.W
end

/- The small walks of package header and of its definition: numbers, what may be, what comes ahead. -/
import Derived.Test.YtoegohofmhijgaaDoorCells
import Derived.Test.YtoegohofmhijgaaDoorHeaderN
import Derived.Test.YtoegohofmhijgaaDoorFixed
import Derived.Test.YtoegohofmhijgaaDoorStamp
namespace Go.Proofs.YtoegohofmhijgaaDoor.W
open Go.RowKit
open Go.Proofs.YtoegohofmhijgaaDoor.M Go.Proofs.YtoegohofmhijgaaDoor.D Go.Proofs.YtoegohofmhijgaaDoor.Z
set_option linter.unusedVariables false

/-- May there be such a header? -/
def okH (a b : Int) : Bool := decide (1 ≤ a ∧ a ≤ 65535 ∧ 0 ≤ b ∧ b ≤ 1099511627776)
theorem mayBe_any (a g s b : Int) (w : World) :
    Calls Tryd.prog 19 #[.agg #[.int .i64 a, .int .u32 g, .int .u32 s, .int .i64 b]] w fun x w' => x = .returned (.bool (okH a b)) ∧ Below w.heap.size w w' := by
  have hB := Lib.hid (grewAlloc (Below.refl _ w) (.cells #[.int .i64 a, .int .u32 g, .int .u32 s, .int .i64 b] 24))
  obtain ⟨r, hr⟩ : ∃ r, Hid (okH a b = r) := ⟨_, Lib.hid rfl⟩
  rw [hr.out]
  have hq := hr.out
  unfold okH at hq
  go_enter Tryd.func19, Tryd.ntmps19
  by_cases h0 : 1 ≤ a
  · by_cases h1 : a ≤ 65535
    · by_cases h2 : 0 ≤ b
      · by_cases h3 : b ≤ 1099511627776
        · obtain rfl : r = true := by rw [← hq]; simp [h0, h1, h2, h3]
          clear hq hr
          go_wp2_with fail
          go_ret
          exact ⟨rfl, hB.out⟩
        · obtain rfl : r = false := by rw [← hq]; simp [h3]
          have h4 : 1099511627776 < b := by omega
          clear hq hr
          go_wp2_with fail
          go_ret
          exact ⟨rfl, hB.out⟩
      · obtain rfl : r = false := by rw [← hq]; simp [h2]
        have h4 : b < 0 := by omega
        clear hq hr
        go_wp2_with fail
        go_ret
        exact ⟨rfl, hB.out⟩
    · obtain rfl : r = false := by rw [← hq]; simp [h1]
      have h4 : 65535 < a := by omega
      clear hq hr
      go_wp2_with fail
      go_ret
      exact ⟨rfl, hB.out⟩
  · obtain rfl : r = false := by rw [← hq]; simp [h0]
    have h4 : a < 1 := by omega
    clear hq hr
    go_wp2_with fail
    go_ret
    exact ⟨rfl, hB.out⟩
theorem rmayH_any (a g s b : Int) (w : World) :
    Calls Tryd.prog 12 #[.agg #[.int .i64 a, .int .u32 g, .int .u32 s, .int .i64 b]] w fun x w' => x = .returned (.bool (okH a b)) ∧ Below w.heap.size w w' := by
  have hB := Lib.hid (grewAlloc (Below.refl _ w) (.cells #[.int .i64 a, .int .u32 g, .int .u32 s, .int .i64 b] 29))
  obtain ⟨r, hr⟩ : ∃ r, Hid (okH a b = r) := ⟨_, Lib.hid rfl⟩
  rw [hr.out]
  have hq := hr.out
  unfold okH at hq
  go_enter Tryd.func12, Tryd.ntmps12
  by_cases h0 : 1 ≤ a
  · by_cases h1 : a ≤ 65535
    · by_cases h2 : 0 ≤ b
      · by_cases h3 : b ≤ 1099511627776
        · obtain rfl : r = true := by rw [← hq]; simp [h0, h1, h2, h3]
          clear hq hr
          go_wp2_with fail
          go_ret
          exact ⟨rfl, hB.out⟩
        · obtain rfl : r = false := by rw [← hq]; simp [h3]
          have h4 : 1099511627776 < b := by omega
          clear hq hr
          go_wp2_with fail
          go_ret
          exact ⟨rfl, hB.out⟩
      · obtain rfl : r = false := by rw [← hq]; simp [h2]
        have h4 : b < 0 := by omega
        clear hq hr
        go_wp2_with fail
        go_ret
        exact ⟨rfl, hB.out⟩
    · obtain rfl : r = false := by rw [← hq]; simp [h1]
      have h4 : 65535 < a := by omega
      clear hq hr
      go_wp2_with fail
      go_ret
      exact ⟨rfl, hB.out⟩
  · obtain rfl : r = false := by rw [← hq]; simp [h0]
    have h4 : a < 1 := by omega
    clear hq hr
    go_wp2_with fail
    go_ret
    exact ⟨rfl, hB.out⟩
theorem before_any (a g s b a' g' s' b' : Int) (w : World) :
    Calls Tryd.prog 16 #[.agg #[.int .i64 a, .int .u32 g, .int .u32 s, .int .i64 b], .agg #[.int .i64 a', .int .u32 g', .int .u32 s', .int .i64 b']] w fun x w' => x = .returned (.bool (decide (b < b' ∨ b = b' ∧ s < s'))) ∧ Below w.heap.size w w' := by
  have hB := Lib.hid (grewAlloc (grewAlloc (Below.refl _ w) (.cells #[.int .i64 a, .int .u32 g, .int .u32 s, .int .i64 b] 24)) (.cells #[.int .i64 a', .int .u32 g', .int .u32 s', .int .i64 b'] 24))
  go_enter Tryd.func16, Tryd.ntmps16
  by_cases h0 : b = b'
  · subst h0
    rw [show decide (b < b ∨ b = b ∧ s < s') = decide (s < s') from by rw [decide_eq_decide]; omega]
    go_wp2_with fail
    go_ret
    exact ⟨rfl, hB.out⟩
  · rw [show decide (b < b' ∨ b = b' ∧ s < s') = decide (b < b') from by rw [decide_eq_decide]; omega]
    have h1 : (b != b') = true := by simp [h0]
    go_wp2_with fail
    go_ret
    exact ⟨rfl, hB.out⟩
theorem refH_any (a g s b : Int) (w : World) :
    Calls Tryd.prog 10 #[.agg #[.int .i64 a, .int .u32 g, .int .u32 s, .int .i64 b]] w fun x w' => x = .returned (.agg #[.int .i64 a, .int .u32 g, .int .u32 s, .int .i64 b]) ∧ Below w.heap.size w w' := by
  have hB := Lib.hid (grewAlloc (grewAlloc (Below.refl _ w) (.cells #[.int .i64 a, .int .u32 g, .int .u32 s, .int .i64 b] 24)) (.cells #[.int .i64 a, .int .u32 g, .int .u32 s, .int .i64 b] 29))
  go_enter Tryd.func10, Tryd.ntmps10
  go_wp2_with fail
  exact bodyPost_ret (v := .agg #[.int .i64 a, .int .u32 g, .int .u32 s, .int .i64 b]) (by simp [results, Tryd.results10, go_sem]) rfl ⟨rfl, hB.out⟩
theorem numbersOfH_any (a g s b : Nat) (w : World) (ha : a < 65536) (hg : g < 4294967296) (hs : s < 4294967296) (hb : b ≤ 1099511627776) :
    Calls Tryd.prog 22 #[.agg #[.int .i64 (a : Int), .int .u32 (g : Int), .int .u32 (s : Int), .int .i64 (b : Int)]] w fun x w' => x = .returned (.agg #[.int .u64 (a : Int), .int .u64 (g : Int), .int .u64 (s : Int), .int .u64 (b : Int)]) ∧ Below w.heap.size w w' := by
  have hB := Lib.hid (grewAlloc (grewAlloc (Below.refl _ w) (.cells #[.int .i64 (a : Int), .int .u32 (g : Int), .int .u32 (s : Int), .int .i64 (b : Int)] 24)) (.cells #[.int .u64 (a : Int), .int .u64 (g : Int), .int .u64 (s : Int), .int .u64 (b : Int)] 51))
  go_enter Tryd.func22, Tryd.ntmps22
  go_wp2_with fail
  exact bodyPost_ret (v := .agg #[.int .u64 (a : Int), .int .u64 (g : Int), .int .u64 (s : Int), .int .u64 (b : Int)]) (by simp [results, Tryd.results22, go_sem]) rfl ⟨rfl, hB.out⟩
theorem headerOf_any (a g s b : Nat) (w : World) (ha : a < 65536) (hg : g < 4294967296) (hs : s < 4294967296) (hb : b < 18446744073709551616) :
    Calls Tryd.prog 18 #[.agg #[.int .u64 (a : Int), .int .u64 (g : Int), .int .u64 (s : Int), .int .u64 (b : Int)]] w fun x w' => x = .returned (.agg #[.int .i64 (a : Int), .int .u32 (g : Int), .int .u32 (s : Int), .int .i64 (wrap64 (b : Int))]) ∧ Below w.heap.size w w' := by
  have hB := Lib.hid (grewAlloc (grewAlloc (Below.refl _ w) (.cells #[.int .u64 (a : Int), .int .u64 (g : Int), .int .u64 (s : Int), .int .u64 (b : Int)] 51)) (.cells #[.int .i64 (a : Int), .int .u32 (g : Int), .int .u32 (s : Int), .int .i64 (wrap64 (b : Int))] 24))
  go_enter Tryd.func18, Tryd.ntmps18
  go_wp2_with fail
  exact bodyPost_ret (v := .agg #[.int .i64 (a : Int), .int .u32 (g : Int), .int .u32 (s : Int), .int .i64 (wrap64 (b : Int))]) (by simp [results, Tryd.results18, go_sem]) rfl ⟨rfl, hB.out⟩
theorem hFixed_any (v : Int) (n : Int) (w : World) (h0 : 0 ≤ v) (h1 : v < 18446744073709551616) (hf : fitsB v n = true) :
    Calls Tryd.prog 27 #[.int .u64 v, .int .i64 n] w fun e w' => e = .returned (.string (B (fx v n.toNat))) ∧ Below w.heap.size w w' := by
  replace hf := Lib.hid hf
  go_enter Tryd.func27, Tryd.ntmps27
  go_wp2_with fail
  refine (fixed_yes v n _ h0 h1 hf.out).mono ?_
  rintro e w1 ⟨rfl, hb⟩
  go_wp2_with fail
  go_ret
  exact ⟨rfl, hb⟩
end Go.Proofs.YtoegohofmhijgaaDoor.W

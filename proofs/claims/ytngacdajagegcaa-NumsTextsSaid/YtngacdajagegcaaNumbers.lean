/- The walks of the functions on numbers of nums, and of those of its definition. -/
import Derived.Test.YtngacdajagegcaaProg
import Derived.Test.YtngacdajagegcaaMath
import Derived.ProofKit
import Derived.OpenShut
import Derived.Below
import Derived.Outline
import Derived.Lib.Hide
namespace Go.Proofs.Ytngacdajagegcaa.W
open Go.RowKit
open Go.Proofs.Ytngacdajagegcaa.M
set_option linter.unusedVariables false

theorem fold_any (a : Int) (w : World) (h0 : -9223372036854775808 ≤ a) (h1 : a ≤ 9223372036854775807) :
    Calls Try.prog 25 #[.int .i64 a] w fun e w' => e = .returned (.int .u64 (foldI a)) ∧ w = w' := by
  go_enter Try.func25, Try.ntmps25
  go_wp2
  go_ret
  exact ⟨ret_int (fold_bits a h0 h1), rfl⟩

theorem unfold_any (a : Int) (w : World) (h0 : 0 ≤ a) (h1 : a < 18446744073709551616) :
    Calls Try.prog 26 #[.int .u64 a] w fun e w' => e = .returned (.int .i64 (unfoldI a)) ∧ w = w' := by
  go_enter Try.func26, Try.ntmps26
  go_wp2
  go_ret
  exact ⟨ret_int (unfold_bits a h0 h1), rfl⟩

theorem rfold_any (a : Int) (w : World) (h0 : -9223372036854775808 ≤ a) (h1 : a ≤ 9223372036854775807) :
    Calls Try.prog 27 #[.int .i64 a] w fun e w' => e = .returned (.int .u64 (foldI a)) ∧ w = w' := by
  go_enter Try.func27, Try.ntmps27
  go_wp2
  · have h : 0 ≤ a := by assumption
    go_ret
    exact ⟨ret_int (by unfold foldI; rw [if_pos h]), rfl⟩
  · have h : a < 0 := by assumption
    go_ret
    exact ⟨ret_int (by unfold foldI; rw [if_neg (by omega)]; omega), rfl⟩

theorem runfold_any (a : Int) (w : World) (h0 : 0 ≤ a) (h1 : a < 18446744073709551616) :
    Calls Try.prog 28 #[.int .u64 a] w fun e w' => e = .returned (.int .i64 (unfoldI a)) ∧ w = w' := by
  go_enter Try.func28, Try.ntmps28
  go_wp2
  · have h : (a % 2 == 0) = true := by assumption
    go_ret
    exact ⟨ret_int (by unfold unfoldI; rw [if_pos (by simpa using h)]), rfl⟩
  · have h : (a % 2 == 0) = false := by assumption
    go_ret
    exact ⟨ret_int (by unfold unfoldI; rw [if_neg (by simpa using h)]), rfl⟩

theorem low_any (a n : Int) (w : World) (h0 : 0 ≤ a) (h1 : a < 18446744073709551616) (h2 : -9223372036854775808 ≤ n) (h3 : n ≤ 9223372036854775807) :
    Calls Try.prog 29 #[.int .u64 a, .int .i64 n] w fun e w' => e = .returned (.int .u64 (lowI a n)) ∧ w = w' := by
  by_cases hn : n < 0
  · go_enter Try.func29, Try.ntmps29
    go_wp2
    go_ret
    exact ⟨ret_int ((and_mask a 0 h0 h1 (by omega)).trans (low_at a 0 n (by omega)).symm), rfl⟩
  · by_cases hn2 : 64 < n
    · go_enter Try.func29, Try.ntmps29
      go_wp2
      go_ret
      exact ⟨ret_int ((and_mask a 64 h0 h1 (by omega)).trans (low_at a 64 n (by omega)).symm), rfl⟩
    · go_enter Try.func29, Try.ntmps29
      go_wp2
      go_ret
      exact ⟨ret_int ((and_mask a n.toNat h0 h1 (by omega)).trans (low_at a n.toNat n (by omega)).symm), rfl⟩

theorem signed_any (a n : Int) (w : World) (h0 : 0 ≤ a) (h1 : a < 18446744073709551616) (h2 : -9223372036854775808 ≤ n) (h3 : n ≤ 9223372036854775807) :
    Calls Try.prog 31 #[.int .u64 a, .int .i64 n] w fun e w' => e = .returned (.int .i64 (signedI a n)) ∧ w = w' := by
  by_cases hn : n < 1
  · go_enter Try.func31, Try.ntmps31
    go_wp2
    go_ret
    exact ⟨ret_int ((signed_bits a 1 (by omega) (by omega)).trans (signed_at a n 1 (by omega)).symm), rfl⟩
  · by_cases hn2 : 64 < n
    · go_enter Try.func31, Try.ntmps31
      go_wp2
      go_ret
      refine ⟨ret_int (Eq.trans ?_ ((signed_bits a 64 (by omega) (by omega)).trans (signed_at a n 64 (by omega)).symm)), rfl⟩
      show wrap64 a = wrap64 (IntKind.u64.wrap (a * 1)) / 1
      rw [Int.mul_one, Int.ediv_one, wrap_low a h0 h1]
    · go_enter Try.func31, Try.ntmps31
      go_wp2
      go_ret
      refine ⟨ret_int (Eq.trans ?_ ((signed_bits a n.toNat (by omega) (by omega)).trans (signed_at a n n.toNat (by omega)).symm)), rfl⟩
      rw [show (64 - n).toNat = 64 - n.toNat from by omega]

theorem rlow_any (a n : Int) (w : World) (h0 : 0 ≤ a) (h1 : a < 18446744073709551616) (h2 : -9223372036854775808 ≤ n) (h3 : n ≤ 9223372036854775807) :
    Calls Try.prog 30 #[.int .u64 a, .int .i64 n] w fun e w' => e = .returned (.int .u64 (lowI a n)) ∧ w = w' := by
  go_enter Try.func30, Try.ntmps30
  go_wp2
  go_loop [0, 5, 6, 8] (fun v o p i => ∃ k : Nat, k ≤ 64 ∧ i = .int .i64 k ∧ v = .int .u64 (a / 2 ^ k) ∧ o = .int .u64 (a % 2 ^ (min n k).toNat) ∧ p = .int .u64 (IntKind.u64.wrap (2 ^ k))) (fun _ _ _ i => 64 - (intOf i).toNat)
  case atStart => exact ⟨0, by omega, rfl, by simp, by simp [show (min n 0).toNat = 0 from by omega], by rfl⟩
  case round =>
    obtain ⟨k, hk, rfl, rfl, rfl, rfl⟩ := hrel
    have hd := div_le a k h0
    have hd2 : a / 2 ^ k < 18446744073709551616 := by omega
    have hm := mod_le a (k + 1) h0
    have hh := Lib.hid (half_more a k)
    by_cases hlt : k < 64
    · by_cases hn : (k : Int) < n
      · have hs := Lib.hid (low_step_in a n k h0 hn)
        have he : (min n ((k + 1 : Nat) : Int)).toNat = k + 1 := by omega
        have he := Lib.hid he
        go_wp2
        · have hb : (a / 2 ^ k % 2 == 1) = true := by assumption
          go_round
          case rel => exact ⟨k + 1, by omega, by go_num, by rw [hh.out], by rw [wrap_add, hs.out, show a / 2 ^ k % 2 = 1 from by simpa using hb, Int.mul_one, wrap_low] <;> (have h3 := hs.out; rw [he.out, show a / 2 ^ k % 2 = 1 from by simpa using hb, Int.mul_one] at h3; omega), by rw [wrap_two]⟩
          case measure => simp [intOf]; omega
        · have hb : (a / 2 ^ k % 2 == 1) = false := by assumption
          have hb' : ¬ (a / 2 ^ k % 2 = 1) := by simpa using hb
          go_round
          case rel => exact ⟨k + 1, by omega, by go_num, by rw [hh.out], by rw [hs.out, show a / 2 ^ k % 2 = 0 from by omega, Int.mul_zero, Int.add_zero], by rw [wrap_two]⟩
          case measure => simp [intOf]; omega
      · have hs := Lib.hid (low_step_out a n k (by omega))
        go_wp2
        go_round
        case rel => exact ⟨k + 1, by omega, by go_num, by rw [hh.out], by rw [hs.out], by rw [wrap_two]⟩
        case measure => simp [intOf]; omega
    · have hk64 : k = 64 := by omega
      have hk64 := Lib.hid hk64
      go_wp2
      go_ret
      exact ⟨ret_int rfl, rfl⟩

theorem rsigned_lo (a n : Int) (w : World) (h0 : 0 ≤ a) (h1 : a < 18446744073709551616) (hn : n < 1) :
    Calls Try.prog 32 #[.int .u64 a, .int .i64 n] w fun e w' => e = .returned (.int .i64 (signedI a n)) ∧ w = w' := by
  go_enter Try.func32, Try.ntmps32
  go_wp2
  go_loop [5, 13] (fun t i => ∃ k : Nat, (k : Int) ≤ (1 : Int) - 1 ∧ i = .int .i64 k ∧ t = .int .u64 (2 ^ k)) (fun _ i => ((1 : Int)).toNat - (intOf i).toNat)
  case atStart => exact ⟨0, by omega, rfl, rfl⟩
  case round =>
    obtain ⟨k, hk, rfl, rfl⟩ := hrel
    by_cases hlt : (k : Int) < (1 : Int) - 1
    · exact absurd hlt (by omega)
    · obtain ⟨hr0, hr1, ht, ht1, hs⟩ := signed_half a n k (by omega) h0 (by omega) (1 : Int) (by omega)
      have hs := Lib.hid hs
      have hM : (1 : Int) ≤ 64 := by omega
      have hM1 : 1 ≤ (1 : Int) := by omega
      go_wp2_with (go_at_call 30; refine (rlow_any a (1 : Int) _ h0 h1 (by omega) (by omega)).mono ?_; rintro e w' ⟨rfl, rfl⟩)
      · have hl : lowI a (1 : Int) < 2 ^ k := by assumption
        go_ret
        exact ⟨ret_int (by rw [hs.out, if_pos hl]), rfl⟩
      · have hl : (2 : Int) ^ k ≤ lowI a (1 : Int) := by assumption
        go_ret
        exact ⟨ret_int (by rw [hs.out, if_neg (by omega)]; omega), rfl⟩

theorem rsigned_hi (a n : Int) (w : World) (h0 : 0 ≤ a) (h1 : a < 18446744073709551616) (hn : 64 < n) :
    Calls Try.prog 32 #[.int .u64 a, .int .i64 n] w fun e w' => e = .returned (.int .i64 (signedI a n)) ∧ w = w' := by
  go_enter Try.func32, Try.ntmps32
  go_wp2
  go_loop [5, 13] (fun t i => ∃ k : Nat, (k : Int) ≤ (64 : Int) - 1 ∧ i = .int .i64 k ∧ t = .int .u64 (2 ^ k)) (fun _ i => ((64 : Int)).toNat - (intOf i).toNat)
  case atStart => exact ⟨0, by omega, rfl, rfl⟩
  case round =>
    obtain ⟨k, hk, rfl, rfl⟩ := hrel
    by_cases hlt : (k : Int) < (64 : Int) - 1
    · obtain ⟨_, _, hb, hb1, _⟩ := signed_half a (k + 1) k (by omega) h0 (by omega) (k + 1) (by omega)
      have hb2 : (2 : Int) ^ k ≤ 4611686018427387904 := by
        obtain ⟨_, _, hc, _, _⟩ := signed_half a (k + 2) (k + 1) (by omega) h0 (by omega) (k + 2) (by omega)
        rw [Int.pow_succ] at hc; omega
      go_wp2_with fail
      go_round
      case rel => exact ⟨k + 1, by omega, by go_num, by rw [Int.pow_succ, Int.mul_comm]⟩
      case measure => simp [intOf]; omega
    · obtain ⟨hr0, hr1, ht, ht1, hs⟩ := signed_half a n k (by omega) h0 (by omega) (64 : Int) (by omega)
      have hs := Lib.hid hs
      have hM : (64 : Int) ≤ 64 := by omega
      have hM1 : 1 ≤ (64 : Int) := by omega
      go_wp2_with (go_at_call 30; refine (rlow_any a (64 : Int) _ h0 h1 (by omega) (by omega)).mono ?_; rintro e w' ⟨rfl, rfl⟩)
      · have hl : lowI a (64 : Int) < 2 ^ k := by assumption
        go_ret
        exact ⟨ret_int (by rw [hs.out, if_pos hl]), rfl⟩
      · have hl : (2 : Int) ^ k ≤ lowI a (64 : Int) := by assumption
        go_ret
        exact ⟨ret_int (by rw [hs.out, if_neg (by omega)]; omega), rfl⟩

theorem rsigned_in (a n : Int) (w : World) (h0 : 0 ≤ a) (h1 : a < 18446744073709551616) (hn : 1 ≤ n) (hn2 : n ≤ 64) :
    Calls Try.prog 32 #[.int .u64 a, .int .i64 n] w fun e w' => e = .returned (.int .i64 (signedI a n)) ∧ w = w' := by
  go_enter Try.func32, Try.ntmps32
  go_wp2
  go_loop [5, 13] (fun t i => ∃ k : Nat, (k : Int) ≤ n - 1 ∧ i = .int .i64 k ∧ t = .int .u64 (2 ^ k)) (fun _ i => (n).toNat - (intOf i).toNat)
  case atStart => exact ⟨0, by omega, rfl, rfl⟩
  case round =>
    obtain ⟨k, hk, rfl, rfl⟩ := hrel
    by_cases hlt : (k : Int) < n - 1
    · obtain ⟨_, _, hb, hb1, _⟩ := signed_half a (k + 1) k (by omega) h0 (by omega) (k + 1) (by omega)
      have hb2 : (2 : Int) ^ k ≤ 4611686018427387904 := by
        obtain ⟨_, _, hc, _, _⟩ := signed_half a (k + 2) (k + 1) (by omega) h0 (by omega) (k + 2) (by omega)
        rw [Int.pow_succ] at hc; omega
      go_wp2_with fail
      go_round
      case rel => exact ⟨k + 1, by omega, by go_num, by rw [Int.pow_succ, Int.mul_comm]⟩
      case measure => simp [intOf]; omega
    · obtain ⟨hr0, hr1, ht, ht1, hs⟩ := signed_half a n k (by omega) h0 (by omega) n (by omega)
      have hs := Lib.hid hs
      have hM : n ≤ 64 := by omega
      have hM1 : 1 ≤ n := by omega
      go_wp2_with (go_at_call 30; refine (rlow_any a n _ h0 h1 (by omega) (by omega)).mono ?_; rintro e w' ⟨rfl, rfl⟩)
      · have hl : lowI a n < 2 ^ k := by assumption
        go_ret
        exact ⟨ret_int (by rw [hs.out, if_pos hl]), rfl⟩
      · have hl : (2 : Int) ^ k ≤ lowI a n := by assumption
        go_ret
        exact ⟨ret_int (by rw [hs.out, if_neg (by omega)]; omega), rfl⟩

theorem rsigned_any (a n : Int) (w : World) (h0 : 0 ≤ a) (h1 : a < 18446744073709551616) :
    Calls Try.prog 32 #[.int .u64 a, .int .i64 n] w fun e w' => e = .returned (.int .i64 (signedI a n)) ∧ w = w' := by
  by_cases hn : n < 1
  · exact rsigned_lo a n w h0 h1 hn
  · by_cases hn2 : 64 < n
    · exact rsigned_hi a n w h0 h1 hn2
    · exact rsigned_in a n w h0 h1 (by omega) (by omega)
end Go.Proofs.Ytngacdajagegcaa.W

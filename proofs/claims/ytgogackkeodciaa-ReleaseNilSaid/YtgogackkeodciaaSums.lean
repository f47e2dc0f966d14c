/- The walks of package sums, and of its definition. -/
import Derived.Test.YtgogackkeodciaaProg
import Derived.Test.YtgogackkeodciaaSum
import Derived.Test.YtgogackkeodciaaCrc
import Derived.Test.YtgogackkeodciaaWorld
import Derived.ProofKit
import Derived.OpenShut
import Derived.Below
import Derived.Outline
import Derived.Lib.Hide
namespace Go.Proofs.Ytgogackkeodciaa.W
open Go.RowKit
open Go.Proofs.Ytgogackkeodciaa.M
set_option linter.unusedVariables false

theorem dig_any (s : ByteArray) (w : World) (hs : s.size ≤ 1099511627776) :
    Calls Try.prog 55 #[.string s] w fun e w' => e = .returned (.int .u64 (dig s.data.toList : Nat)) ∧ w = w' := by
  go_enter Try.func55, Try.ntmps55
  go_wp2
  go_loop [3, 7] (fun v i => ∃ k : Nat, k ≤ s.size ∧ i = .int .i64 k ∧ v = .int .u64 (dig (s.data.toList.take k) : Nat)) (fun _ i => s.size - (intOf i).toNat)
  case atStart => exact ⟨0, by omega, rfl, rfl⟩
  case round =>
    obtain ⟨k, hk, rfl, rfl⟩ := hrel
    have hr := dig_lt (s.data.toList.take k)
    obtain ⟨r, hr2⟩ : ∃ r, Hid (dig (s.data.toList.take k) = r) := ⟨_, Lib.hid rfl⟩
    rw [hr2.out] at hr ⊢
    by_cases hlt : k < s.size
    · have hidx := fun wx => idx_nat (P := Try.prog) 9 Try.underlying9 s .i64 k hlt wx
      have hb := bt_lt s.data.toList k
      have hx := u64_xor_nat r (bt s.data.toList k) hr (by omega)
      have hs := Lib.hid (dig_take s k hlt)
      have hM := Lib.hid (digMul (r ^^^ bt s.data.toList k))
      have hxl := xor_lt64 r (bt s.data.toList k) hr (by omega)
      go_wp2
      go_round
      case rel => exact ⟨k + 1, by omega, by go_num, by rw [hs.out, hr2.out, hM.out]⟩
      case measure => simp [intOf]; omega
    · have hE := Lib.hid (show dig s.data.toList = r from by rw [← hr2.out, List.take_of_length_le (by simp; omega)])
      go_wp2
      go_ret
      exact ⟨ret_int (by rw [hE.out]), rfl⟩

theorem rdig_any (s : ByteArray) (w : World) (hs : s.size ≤ 1099511627776) :
    Calls Try.prog 58 #[.string s] w fun e w' => e = .returned (.int .u64 (dig s.data.toList : Nat)) ∧ w = w' := by
  go_enter Try.func58, Try.ntmps58
  go_wp2
  go_loop [3, 7] (fun v i => ∃ k : Nat, k ≤ s.size ∧ i = .int .i64 k ∧ v = .int .u64 (dig (s.data.toList.take k) : Nat)) (fun _ i => s.size - (intOf i).toNat)
  case atStart => exact ⟨0, by omega, rfl, rfl⟩
  case round =>
    obtain ⟨k, hk, rfl, rfl⟩ := hrel
    have hr := dig_lt (s.data.toList.take k)
    obtain ⟨r, hr2⟩ : ∃ r, Hid (dig (s.data.toList.take k) = r) := ⟨_, Lib.hid rfl⟩
    rw [hr2.out] at hr ⊢
    by_cases hlt : k < s.size
    · have hidx := fun wx => idx_nat (P := Try.prog) 9 Try.underlying9 s .i64 k hlt wx
      have hb := bt_lt s.data.toList k
      have hx := u64_xor_nat r (bt s.data.toList k) hr (by omega)
      have hs := Lib.hid (dig_take s k hlt)
      have hM := Lib.hid (digMul (r ^^^ bt s.data.toList k))
      have hxl := xor_lt64 r (bt s.data.toList k) hr (by omega)
      go_wp2
      go_round
      case rel => exact ⟨k + 1, by omega, by go_num, by rw [hs.out, hr2.out, hM.out]⟩
      case measure => simp [intOf]; omega
    · have hE := Lib.hid (show dig s.data.toList = r from by rw [← hr2.out, List.take_of_length_le (by simp; omega)])
      go_wp2
      go_ret
      exact ⟨ret_int (by rw [hE.out]), rfl⟩

end Go.Proofs.Ytgogackkeodciaa.W

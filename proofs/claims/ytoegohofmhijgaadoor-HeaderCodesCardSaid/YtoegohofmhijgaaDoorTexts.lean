/- The walks of the functions on bytes of nums, and of those of its definition. -/
import Derived.Test.YtoegohofmhijgaaDoorProg
import Derived.Test.YtoegohofmhijgaaDoorText
import Derived.Test.YtoegohofmhijgaaDoorNumbers
import Derived.Test.YtoegohofmhijgaaDoorFixed
import Derived.ProofKit
import Derived.OpenShut
import Derived.Below
import Derived.Outline
import Derived.Lib.Hide
import Derived.WalkSpells
import Derived.WalkLawsBesides
namespace Go.Proofs.YtoegohofmhijgaaDoor.W
open Go.RowKit
open Go.Proofs.YtoegohofmhijgaaDoor.M
set_option linter.unusedVariables false


theorem rread_any (s : ByteArray) (w : World) (hs : s.size ≤ 8) :
    Calls Tryd.prog 21 #[.string s] w fun e w' => e = .returned (.int .u64 (rd s.data.toList)) ∧ w = w' := by
  go_enter Tryd.func21, Tryd.ntmps21
  go_wp2
  go_loop [3, 7] (fun v i => ∃ k : Nat, k ≤ s.size ∧ i = .int .i64 k ∧ v = .int .u64 (rd (s.data.toList.take k))) (fun _ i => s.size - (intOf i).toNat)
  case atStart => exact ⟨0, Nat.zero_le _, rfl, rfl⟩
  case round =>
    obtain ⟨k, hk, rfl, rfl⟩ := hrel
    by_cases hlt : k < s.size
    · have hr := rd_lt7 (s.data.toList.take k) (by have := List.length_take_le k s.data.toList; omega)
      have hu := s[k].toNat_lt
      have hS := Lib.hid (rd_take s k hlt)
      go_wp2
      go_round
      case rel => exact ⟨k + 1, by omega, by go_num, by rw [hS.out]; go_num⟩
      case measure => simp [intOf]; omega
    · go_wp2
      go_ret
      exact ⟨ret_int (by rw [List.take_of_length_le (by simp; omega)]), rfl⟩

theorem read_no (s : ByteArray) (w : World) (hs0 : s.size ≤ 1000000) (hs : s.size < 1 ∨ 8 < s.size) :
    Calls Tryd.prog 26 #[.string s] w fun e w' => e = .returned (.tuple #[.int .u64 0, .int .i64 1]) ∧ w = w' := by
  rcases hs with hs | hs
  · go_enter Tryd.func26, Tryd.ntmps26
    go_wp2
    go_ret2
    exact ⟨rfl, rfl⟩
  · go_enter Tryd.func26, Tryd.ntmps26
    go_wp2
    go_ret2
    exact ⟨rfl, rfl⟩

theorem fixed_no (a n : Int) (w : World) (h0 : 0 ≤ a) (h1 : a < 18446744073709551616) (h2 : -9223372036854775808 ≤ n) (h3 : n ≤ 9223372036854775807) (hf : fitsB a n = false) :
    Calls Tryd.prog 30 #[.int .u64 a, .int .i64 n] w fun e w' => e = .returned (.tuple #[.string (B []), .int .i64 1]) ∧ Below w.heap.size w w' := by
  by_cases hn : n < 1
  · go_enter Tryd.func30, Tryd.ntmps30
    go_wp2
    go_ret2
    exact ⟨rfl, Below.refl _ _⟩
  · by_cases hn2 : 8 < n
    · go_enter Tryd.func30, Tryd.ntmps30
      go_wp2
      go_ret2
      exact ⟨rfl, Below.refl _ _⟩
    · have hl := fits_not_low a n h0 (by omega) (by omega) hf
      go_enter Tryd.func30, Tryd.ntmps30
      go_wp2_with (go_at_call 32; refine (low_any a (8 * n) _ h0 h1 (by omega) (by omega)).mono ?_; rintro e w' ⟨rfl, rfl⟩)
      go_ret2
      exact ⟨rfl, Below.refl _ _⟩
end Go.Proofs.YtoegohofmhijgaaDoor.W

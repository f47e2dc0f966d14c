/- The walks of the CRC of sums, and of its definition. The walks of a sum that goes on: one block of the call's own. -/
import Derived.Test.YtgogackkeodciabGreatDoorProg
import Derived.Test.YtgogackkeodciabGreatDoorSum
import Derived.Test.YtgogackkeodciabGreatDoorWorld
import Derived.ProofKit
import Derived.OpenShut
import Derived.Below
import Derived.Outline
import Derived.Lib.Hide
section
namespace Go.Proofs.YtgogackkeodciabGreatDoor.W
open Go.RowKit
open Go.Proofs.YtgogackkeodciabGreatDoor.M
set_option linter.unusedVariables false

theorem u32_xor_any (a b : Nat) (ha : a < 4294967296) (hb : b < 4294967296) : bits .xor .u32 (a : Int) (b : Int) = ((a ^^^ b : Nat) : Int) := u32_xor_nat a b ha hb

theorem shiftOut_any (a : Nat) (w : World) (h : a < 4294967296) :
    Calls Tryz.prog 98 #[.int .u32 a] w fun e w' => e = .returned (.int .u32 (its 8 a : Nat)) ∧ w = w' := by
  go_enter Tryz.func98, Tryz.ntmps98
  go_wp2
  go_loop [0, 4] (fun v i => ∃ k : Nat, k ≤ 8 ∧ i = .int .i64 k ∧ v = .int .u32 (its k a : Nat)) (fun _ i => 8 - (intOf i).toNat)
  case atStart => exact ⟨0, by omega, rfl, rfl⟩
  case round =>
    obtain ⟨k, hk, rfl, rfl⟩ := hrel
    have hr := its_lt k a h
    obtain ⟨r, hr2⟩ : ∃ r, Hid (its k a = r) := ⟨_, Lib.hid rfl⟩
    rw [hr2.out] at hr ⊢
    have hand : bits .and .u32 (r : Int) 1 = (r : Int) % 2 := by
      rw [show (1 : Int) = ((1 : Nat) : Int) from rfl, u32_and_nat _ _ hr (by omega), Nat.and_one_is_mod]; rfl
    by_cases hlt : k < 8
    · by_cases hb : r % 2 = 1
      · have hb1 : ((r : Int) % 2 == 1) = true := by simp; omega
        have hx := Lib.hid (u32_xor_nat (r / 2) poly (by omega) (by decide))
        have hs := Lib.hid (show its (k + 1) a = r / 2 ^^^ poly from by show st (its k a) = _; rw [hr2.out]; unfold st; rw [if_pos hb])
        clear hb
        go_wp2
        go_round
        case rel => exact ⟨k + 1, by omega, by go_num, by rw [hs.out, ← hx.out]; rfl⟩
        case measure => simp [intOf]; omega
      · have hb1 : ((r : Int) % 2 == 1) = false := by simp; omega
        have hs := Lib.hid (show its (k + 1) a = r / 2 from by show st (its k a) = _; rw [hr2.out]; unfold st; rw [if_neg hb])
        clear hb
        go_wp2
        go_round
        case rel => exact ⟨k + 1, by omega, by go_num, by rw [hs.out]; rfl⟩
        case measure => simp [intOf]; omega
    · have hE := Lib.hid (show its 8 a = r from by rw [← hr2.out, show k = 8 from by omega])
      go_wp2
      go_ret
      exact ⟨ret_int (by rw [hE.out]), rfl⟩

theorem crc_any (b : Nat) (s : ByteArray) (w : World) (h : b < 4294967296) (hs : s.size ≤ 1099511627776) :
    Calls Tryz.prog 83 #[.int .u32 b, .string s] w fun e w' => e = .returned (.int .u32 (crc b s.data.toList : Nat)) ∧ w = w' := by
  have hn := not32 b h
  have hob : ones - b < 4294967296 := by unfold ones; omega
  go_enter Tryz.func83, Tryz.ntmps83
  go_wp2
  clear hn
  go_loop [5, 11] (fun v i => ∃ k : Nat, k ≤ s.size ∧ i = .int .i64 k ∧ v = .int .u32 (reg (ones - b) (s.data.toList.take k) : Nat)) (fun _ i => s.size - (intOf i).toNat)
  case atStart => exact ⟨0, by omega, rfl, rfl⟩
  case round =>
    obtain ⟨k, hk, rfl, rfl⟩ := hrel
    have hr := reg_lt (s.data.toList.take k) _ hob
    obtain ⟨r, hr2⟩ : ∃ r, Hid (reg (ones - b) (s.data.toList.take k) = r) := ⟨_, Lib.hid rfl⟩
    rw [hr2.out] at hr ⊢
    by_cases hlt : k < s.size
    · have hidx := fun wx => idx_nat (P := Tryz.prog) 9 Tryz.underlying9 s .i64 k hlt wx
      have hb := bt_lt s.data.toList k
      have hx := u32_xor_nat r (bt s.data.toList k) hr (by omega)
      have hs := Lib.hid (reg_take (ones - b) s k hlt)
      have hxl := xor_lt32 r (bt s.data.toList k) hr (by omega)
      go_wp2_with (go_at_call 98; refine (shiftOut_any _ _ hxl).mono ?_; rintro e w' ⟨rfl, rfl⟩)
      go_round
      case rel => exact ⟨k + 1, by omega, by go_num, by rw [hs.out, hr2.out]⟩
      case measure => simp [intOf]; omega
    · have hE := Lib.hid (show crc b s.data.toList = ones - r from by
        unfold crc; rw [← hr2.out, List.take_of_length_le (by simp; omega)])
      have hn := not32 r hr
      go_wp2
      go_ret
      exact ⟨ret_int (by rw [hE.out]), rfl⟩

end Go.Proofs.YtgogackkeodciabGreatDoor.W
end
section
namespace Go.Proofs.YtgogackkeodciabGreatDoor.W
open Go.RowKit
open Go.Proofs.YtgogackkeodciabGreatDoor.M
set_option linter.unusedVariables false

theorem sumNew_any (b : Nat) (w : World) :
    Calls Tryz.prog 127 #[.int .u32 b] w fun e w' => e = .returned (.pointer (some ⟨w.heap.size, 0, none⟩)) ∧ w' = w.alloc (.cells #[.int .u32 b] 175) := by
  go_enter Tryz.func127, Tryz.ntmps127
  go_wp2
  go_ret
  exact ⟨rfl, rfl⟩
theorem sumAdd_any (c : Nat) (hc : c < 4294967296) (s : ByteArray) (hs : s.size ≤ 1099511627776) (w : World) :
    Calls Tryz.prog 128 #[.pointer (some ⟨w.heap.size, 0, none⟩), .string s] (w.alloc (.cells #[.int .u32 c] 175)) fun e w' => e = .returned (.tuple #[]) ∧ w' = w.alloc (.cells #[.int .u32 (crc c s.data.toList : Nat)] 175) := by
  go_enter Tryz.func128, Tryz.ntmps128
  go_wp2_with (go_at_call 83; refine (crc_any c s _ hc hs).mono ?_; rintro e w' ⟨rfl, rfl⟩)
  go_end0
  exact ⟨rfl, rfl⟩
theorem sumValue_any (c : Nat) (w : World) :
    Calls Tryz.prog 129 #[.pointer (some ⟨w.heap.size, 0, none⟩)] (w.alloc (.cells #[.int .u32 c] 175)) fun e w' => e = .returned (.int .u32 c) ∧ w' = w.alloc (.cells #[.int .u32 c] 175) := by
  go_enter Tryz.func129, Tryz.ntmps129
  go_wp2
  go_ret
  exact ⟨rfl, rfl⟩

end Go.Proofs.YtgogackkeodciabGreatDoor.W
end

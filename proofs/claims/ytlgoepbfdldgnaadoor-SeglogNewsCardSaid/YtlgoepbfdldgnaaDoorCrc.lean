/- The walks of the CRC of sums, and of its definition. The walks of a sum that goes on: one block of the call's own. -/
import Derived.Test.YtlgoepbfdldgnaaDoorProg
import Derived.Test.YtlgoepbfdldgnaaDoorSum
import Derived.Test.YtlgoepbfdldgnaaDoorWorld
import Derived.ProofKit
import Derived.OpenShut
import Derived.Below
import Derived.Outline
import Derived.Lib.Hide
section
namespace Go.Proofs.YtlgoepbfdldgnaaDoor.W
open Go.RowKit
open Go.Proofs.YtlgoepbfdldgnaaDoor.M
set_option linter.unusedVariables false

theorem u32_xor_any (a b : Nat) (ha : a < 4294967296) (hb : b < 4294967296) : bits .xor .u32 (a : Int) (b : Int) = ((a ^^^ b : Nat) : Int) := u32_xor_nat a b ha hb

theorem shiftOut_any (a : Nat) (w : World) (h : a < 4294967296) :
    Calls Tryd.prog 145 #[.int .u32 a] w fun e w' => e = .returned (.int .u32 (its 8 a : Nat)) ∧ w = w' := by
  go_enter Tryd.func145, Tryd.ntmps145
  go_wp2
  go_loop [0, 4] (fun v i => ∃ k : Nat, k ≤ 8 ∧ i = .int .i64 k ∧ v = .int .u32 (its k a : Nat)) (fun _ i => 8 - (intOf i).toNat)
  case atStart => exact ⟨0, by omega, rfl, rfl⟩
  case round =>
    obtain ⟨k, hk, rfl, rfl⟩ := hrel
    have hr := its_lt k a h
    obtain ⟨r, hr2⟩ : ∃ r, Hid (its k a = r) := ⟨_, Lib.hid rfl⟩
    rw [hr2.out] at hr ⊢
    have hand : bits .and .u32 (r : Int) 1 = (r : Int) % 2 := by
      rw [show (1 : Int) = ((1 : Nat) : Int) from rfl, u32_and_nat _ _ hr (by omega), Nat.and_one_is_mod]; rfl
    by_cases hlt : k < 8
    · by_cases hb : r % 2 = 1
      · have hb1 : ((r : Int) % 2 == 1) = true := by simp; omega
        have hx := Lib.hid (u32_xor_nat (r / 2) poly (by omega) (by decide))
        have hs := Lib.hid (show its (k + 1) a = r / 2 ^^^ poly from by show st (its k a) = _; rw [hr2.out]; unfold st; rw [if_pos hb])
        clear hb
        go_wp2
        go_round
        case rel => exact ⟨k + 1, by omega, by go_num, by rw [hs.out, ← hx.out]; rfl⟩
        case measure => simp [intOf]; omega
      · have hb1 : ((r : Int) % 2 == 1) = false := by simp; omega
        have hs := Lib.hid (show its (k + 1) a = r / 2 from by show st (its k a) = _; rw [hr2.out]; unfold st; rw [if_neg hb])
        clear hb
        go_wp2
        go_round
        case rel => exact ⟨k + 1, by omega, by go_num, by rw [hs.out]; rfl⟩
        case measure => simp [intOf]; omega
    · have hE := Lib.hid (show its 8 a = r from by rw [← hr2.out, show k = 8 from by omega])
      go_wp2
      go_ret
      exact ⟨ret_int (by rw [hE.out]), rfl⟩

theorem shifted_any (a : Nat) (w : World) (h : a < 4294967296) :
    Calls Tryd.prog 127 #[.int .u32 a] w fun e w' => e = .returned (.int .u32 (st a : Nat)) ∧ w = w' := by
  by_cases hb : a % 2 = 1
  · have hb1 : ((a : Int) % 2 == 1) = true := by simp; omega
    have hx := Lib.hid (u32_xor_nat (a / 2) poly (by omega) (by decide))
    have hs := Lib.hid (show st a = a / 2 ^^^ poly from by unfold st; rw [if_pos hb])
    clear hb
    go_enter Tryd.func127, Tryd.ntmps127
    go_wp2
    go_ret
    exact ⟨ret_int (by rw [hs.out, ← hx.out]; rfl), rfl⟩
  · have hb1 : ((a : Int) % 2 == 1) = false := by simp; omega
    have hs := Lib.hid (show st a = a / 2 from by unfold st; rw [if_neg hb])
    clear hb
    go_enter Tryd.func127, Tryd.ntmps127
    go_wp2
    go_ret
    exact ⟨ret_int (by rw [hs.out]; rfl), rfl⟩

theorem crc_any (b : Nat) (s : ByteArray) (w : World) (h : b < 4294967296) (hs : s.size ≤ 1099511627776) :
    Calls Tryd.prog 125 #[.int .u32 b, .string s] w fun e w' => e = .returned (.int .u32 (crc b s.data.toList : Nat)) ∧ w = w' := by
  have hn := not32 b h
  have hob : ones - b < 4294967296 := by unfold ones; omega
  go_enter Tryd.func125, Tryd.ntmps125
  go_wp2
  clear hn
  go_loop [5, 11] (fun v i => ∃ k : Nat, k ≤ s.size ∧ i = .int .i64 k ∧ v = .int .u32 (reg (ones - b) (s.data.toList.take k) : Nat)) (fun _ i => s.size - (intOf i).toNat)
  case atStart => exact ⟨0, by omega, rfl, rfl⟩
  case round =>
    obtain ⟨k, hk, rfl, rfl⟩ := hrel
    have hr := reg_lt (s.data.toList.take k) _ hob
    obtain ⟨r, hr2⟩ : ∃ r, Hid (reg (ones - b) (s.data.toList.take k) = r) := ⟨_, Lib.hid rfl⟩
    rw [hr2.out] at hr ⊢
    by_cases hlt : k < s.size
    · have hidx := fun wx => idx_nat (P := Tryd.prog) 9 Tryd.underlying9 s .i64 k hlt wx
      have hb := bt_lt s.data.toList k
      have hx := u32_xor_nat r (bt s.data.toList k) hr (by omega)
      have hs := Lib.hid (reg_take (ones - b) s k hlt)
      have hxl := xor_lt32 r (bt s.data.toList k) hr (by omega)
      go_wp2_with (go_at_call 145; refine (shiftOut_any _ _ hxl).mono ?_; rintro e w' ⟨rfl, rfl⟩)
      go_round
      case rel => exact ⟨k + 1, by omega, by go_num, by rw [hs.out, hr2.out]⟩
      case measure => simp [intOf]; omega
    · have hE := Lib.hid (show crc b s.data.toList = ones - r from by
        unfold crc; rw [← hr2.out, List.take_of_length_le (by simp; omega)])
      have hn := not32 r hr
      go_wp2
      go_ret
      exact ⟨ret_int (by rw [hE.out]), rfl⟩

theorem rcrc_any (b : Nat) (s : ByteArray) (w : World) (h : b < 4294967296) (hs : s.size ≤ 1099511627776) :
    Calls Tryd.prog 97 #[.int .u32 b, .string s] w fun e w' => e = .returned (.int .u32 (crc b s.data.toList : Nat)) ∧ w = w' := by
  have hob : ones - b < 4294967296 := by unfold ones; omega
  have ho2 := Lib.hid (show (4294967295 : Int) - (b : Int) = ((ones - b : Nat) : Int) from by unfold ones; omega)
  go_enter Tryd.func97, Tryd.ntmps97
  go_wp2
  go_loop [5, 11] (fun v i => ∃ k : Nat, k ≤ s.size ∧ i = .int .i64 k ∧ v = .int .u32 (reg (ones - b) (s.data.toList.take k) : Nat)) (fun _ i => s.size - (intOf i).toNat)
  case atStart => exact ⟨0, by omega, rfl, by rw [ho2.out]; rfl⟩
  case round =>
    obtain ⟨k, hk, rfl, rfl⟩ := hrel
    have hr := reg_lt (s.data.toList.take k) _ hob
    obtain ⟨r, hr2⟩ : ∃ r, Hid (reg (ones - b) (s.data.toList.take k) = r) := ⟨_, Lib.hid rfl⟩
    rw [hr2.out] at hr ⊢
    by_cases hlt : k < s.size
    · have hidx := fun wx => idx_nat (P := Tryd.prog) 9 Tryd.underlying9 s .i64 k hlt wx
      have hb := bt_lt s.data.toList k
      have hx := u32_xor_nat r (bt s.data.toList k) hr (by omega)
      have hs := Lib.hid (reg_take (ones - b) s k hlt)
      have hxl := xor_lt32 r (bt s.data.toList k) hr (by omega)
      go_wp2
      clear hx
      go_loop [5, 20] (fun v i => ∃ j : Nat, j ≤ 8 ∧ i = .int .i64 j ∧ v = .int .u32 (its j (r ^^^ bt s.data.toList k) : Nat)) (fun _ i => 8 - (intOf i).toNat)
      case atStart => exact ⟨0, by omega, rfl, rfl⟩
      case round =>
        obtain ⟨j, hj, rfl, rfl⟩ := hrel
        have hjl := its_lt j _ hxl
        by_cases hlt8 : j < 8
        · go_wp2_with (go_at_call 127; refine (shifted_any _ _ hjl).mono ?_; rintro e w' ⟨rfl, rfl⟩)
          go_round
          case rel => exact ⟨j + 1, by omega, by go_num, rfl⟩
          case measure => simp [intOf]; omega
        · have hj8 := Lib.hid (show j = 8 from by omega)
          go_wp2
          go_round
          case rel => exact ⟨k + 1, by omega, by go_num, by rw [hs.out, hr2.out, hj8.out]⟩
          case measure => simp [intOf]; omega
    · have hE := Lib.hid (show crc b s.data.toList = ones - r from by
        unfold crc; rw [← hr2.out, List.take_of_length_le (by simp; omega)])
      go_wp2
      go_ret
      exact ⟨ret_int (by rw [hE.out]; unfold ones; omega), rfl⟩

end Go.Proofs.YtlgoepbfdldgnaaDoor.W
end
section
namespace Go.Proofs.YtlgoepbfdldgnaaDoor.W
open Go.RowKit
open Go.Proofs.YtlgoepbfdldgnaaDoor.M
set_option linter.unusedVariables false

theorem sumNew_any (b : Nat) (w : World) :
    Calls Tryd.prog 147 #[.int .u32 b] w fun e w' => e = .returned (.pointer (some ⟨w.heap.size, 0, none⟩)) ∧ w' = w.alloc (.cells #[.int .u32 b] 235) := by
  go_enter Tryd.func147, Tryd.ntmps147
  go_wp2
  go_ret
  exact ⟨rfl, rfl⟩
theorem sumAdd_any (c : Nat) (hc : c < 4294967296) (s : ByteArray) (hs : s.size ≤ 1099511627776) (w : World) :
    Calls Tryd.prog 148 #[.pointer (some ⟨w.heap.size, 0, none⟩), .string s] (w.alloc (.cells #[.int .u32 c] 235)) fun e w' => e = .returned (.tuple #[]) ∧ w' = w.alloc (.cells #[.int .u32 (crc c s.data.toList : Nat)] 235) := by
  go_enter Tryd.func148, Tryd.ntmps148
  go_wp2_with (go_at_call 125; refine (crc_any c s _ hc hs).mono ?_; rintro e w' ⟨rfl, rfl⟩)
  go_end0
  exact ⟨rfl, rfl⟩
theorem sumValue_any (c : Nat) (w : World) :
    Calls Tryd.prog 149 #[.pointer (some ⟨w.heap.size, 0, none⟩)] (w.alloc (.cells #[.int .u32 c] 235)) fun e w' => e = .returned (.int .u32 c) ∧ w' = w.alloc (.cells #[.int .u32 c] 235) := by
  go_enter Tryd.func149, Tryd.ntmps149
  go_wp2
  go_ret
  exact ⟨rfl, rfl⟩

end Go.Proofs.YtlgoepbfdldgnaaDoor.W
end

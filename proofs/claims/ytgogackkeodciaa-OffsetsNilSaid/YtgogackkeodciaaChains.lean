/- The walks of nums.Chain and of its definition. -/
import Derived.Test.YtgogackkeodciaaProg
import Derived.Test.YtgogackkeodciaaShelf
import Derived.Test.YtgogackkeodciaaUnchain
import Derived.Test.YtgogackkeodciaaFixed
import Derived.ProofKit
import Derived.OpenShut
import Derived.Below
import Derived.Outline
import Derived.Lib.Hide
import Derived.WalkSpells
import Derived.WalkLawsBesides
import Derived.Deep.RegionWith
import Derived.StillTailTactics
namespace Go.Proofs.Ytgogackkeodciaa.W
open Go.RowKit
open Go.Proofs.Ytgogackkeodciaa.M
set_option linter.unusedVariables false

theorem links_any (a : Int) (w : World) (h0 : 0 ≤ a) (h1 : a < 18446744073709551616) :
    Calls Try.prog 102 #[.int .u64 a] w fun e w' => e = .returned (.int .i64 ((lastOf a + 1 : Nat) : Int)) ∧ w = w' := by
  have hb := bl_64 a.toNat (by omega)
  have hE := Lib.hid (show lastOf a = (max 1 ((Lib.bitLen a.toNat + 6) / 7)) - 1 from rfl)
  go_enter Try.func102, Try.ntmps102
  go_wp2_with (go_at_call 117; refine (Try.bits_Len64 a _ h0 (by omega)).mono ?_; rintro e w' ⟨rfl, rfl⟩)
  go_ret
  exact ⟨ret_int (by rw [hE.out]; omega), rfl⟩

theorem slice10 (b : Nat) (n : Int) (h0 : 0 ≤ n) (h1 : n ≤ 10) (w : World) :
    (Instr.sliceAt 156 (.pointer (some ⟨b, 0, none⟩)) none (some (.int .i64 n)) none).run Try.prog w = .ok (.slice (some ⟨b, 0, none⟩) n.toNat 10) w := by
  have hL : Try.prog.arrayLen 156 = 10 := by kernel_rfl
  have hS : ∀ wx, (sizeOf (Try.prog.elem 156)).run Try.prog wx = .ok 1 wx := fun wx => by kernel_rfl
  rw [run_sliceAt_array_h w 156 ⟨b, 0, none⟩ (by kernel_rfl) .i64 n h0 (by rw [hL]; omega), hS]
  simp [Result.andThen, slicedAt, hL, Addr.add]

theorem chain_back (a : Int) (k : Nat) (w : World) (h0 : 0 ≤ a) (h1 : a < 18446744073709551616) (hk : lastOf a = k) :
    (convert 87 9 (.slice (some ⟨w.heap.size, 0, none⟩) (lastOf a + 1) 10)).run Try.prog (w.alloc (.cells ((layC a k).setIfInBounds (lastOf a) (.int .u8 (a / 128 ^ k % 256))) 156)) =
      .ok (.string (B (chain a))) (w.alloc (.cells ((layC a k).setIfInBounds (lastOf a) (.int .u8 (a / 128 ^ k % 256))) 156)) := by
  have hl9 := lastOf_le a h0 h1
  have hz := layC_size a k
  have hlen := lst_length (lastOf a) a
  have hc := run_convert_bytes_back (P := Try.prog) (w.alloc (.cells ((layC a k).setIfInBounds (lastOf a) (.int .u8 (a / 128 ^ k % 256))) 156)) 87 9 5 ⟨w.heap.size, 0, none⟩ 10 (lst (lastOf a) a) Try.underlying87 Try.underlying5 Try.underlying9 (by
    intro j hj
    rw [hlen] at hj
    rw [show (⟨w.heap.size, 0, none⟩ : Addr).add j = ⟨w.heap.size, j, none⟩ from by simp [Addr.add]; omega, World.cell?_alloc_new]
    by_cases e : j = lastOf a
    · subst e
      have e1 := lst_last (lastOf a) a
      rw [List.getElem?_eq_getElem (by omega)] at e1
      rw [Array.getElem?_setIfInBounds_self_of_lt (by omega), Option.some.inj e1, ← hk]
      have hd := div128_le a (lastOf a) h0
      have hh := lastOf_hi a h0 h1
      have hp : (0 : Int) < 128 ^ lastOf a := Int.pow_pos (by omega)
      have h128 : a / 128 ^ lastOf a < 128 := by
        rw [Int.pow_succ, Int.mul_comm] at hh
        exact Int.ediv_lt_of_lt_mul hp hh
      congr 2
      simp only [UInt8.toNat_ofNat']
      omega
    · have e1 := lst_get (lastOf a) j (by omega) a
      rw [List.getElem?_eq_getElem (by omega)] at e1
      rw [Array.getElem?_setIfInBounds_ne (by omega), layC_get a k j (by omega) (by omega), Option.some.inj e1]
      congr 2
      simp only [UInt8.toNat_ofNat']
      omega)
  rw [hlen] at hc
  rw [chain_lst a h0 h1]
  exact hc

theorem chain_any (a : Int) (w : World) (h0 : 0 ≤ a) (h1 : a < 18446744073709551616) :
    Calls Try.prog 80 #[.int .u64 a] w fun e w' => e = .returned (.string (B (chain a))) ∧ Below w.heap.size w w' := by
  have hl9 := lastOf_le a h0 h1
  go_enter Try.func80, Try.ntmps80
  go_wp2_with (go_at_call 102; refine (links_any a _ h0 h1).mono ?_; rintro e w' ⟨rfl, rfl⟩)
  go_loopw [0, 5, 10] (fun v _ i wr => ∃ k : Nat, k ≤ lastOf a ∧ i = .int .i64 k ∧ v = .int .u64 (a / 128 ^ k) ∧ wr = w.alloc (.cells (layC a k) 156)) (fun _ _ i _ => lastOf a - (intOf i).toNat)
  case atStart => exact ⟨0, by omega, rfl, by simp, rfl⟩
  case round =>
    obtain ⟨k, hk, rfl, rfl, rfl⟩ := hrel
    have hz := layC_size a k
    have hd := div128_le a k h0
    have hd2 : a / 128 ^ k < 18446744073709551616 := by omega
    by_cases hlt : k < lastOf a
    · obtain ⟨v3, h3c⟩ : ∃ v3, (layC a k)[k]? = some v3 := ⟨_, Array.getElem?_eq_getElem (by omega)⟩
      have hor := Lib.hid (or_more (a / 128 ^ k))
      have hmore := Lib.hid (div128_more a k)
      go_wp2
      go_roundw
      case rel => exact ⟨k + 1, by omega, by go_num, by rw [hmore.out], by rw [hor.out]; rfl⟩
      case measure => simp [intOf]; omega
    · have hkn := Lib.hid (show lastOf a = k from by omega)
      obtain ⟨v3, h3c⟩ : ∃ v3, (layC a k)[lastOf a]? = some v3 := ⟨_, Array.getElem?_eq_getElem (by omega)⟩
      have hsl := fun wx => slice10 w.heap.size ((lastOf a : Int) + 1) (by omega) (by omega) wx
      have hcv := chain_back a k w h0 h1 hkn.out
      go_wp2
      go_ret
      exact ⟨rfl, (Below.refl _ _).alloc (Nat.le_refl _) _⟩

set_option maxRecDepth 100000 in
theorem rchain_any (k : Nat) : ∀ (a : Int) (w : World), 0 ≤ a → a < 128 ^ (k + 1) → k ≤ 9 → a < 18446744073709551616 →
    Calls Try.prog 72 #[.int .u64 a] w fun e w' => e = .returned (.string (B (chF k a))) ∧ Below w.heap.size w w' := by
  induction k with
  | zero =>
    intro a w h0 h1 _ _
    have h1 : a < 128 := by simpa using h1
    have h1b := fun (wx : World) (x : Int) => one_byte (P := Try.prog) 87 9 5 Try.underlying87 Try.underlying5 Try.underlying9 wx x
    go_enter Try.func72, Try.ntmps72
    go_wp2_with fail
    go_ret
    exact ⟨rfl, (Below.refl _ _).alloc (Nat.le_refl _) _⟩
  | succ k ih =>
    intro a w h0 h1 hk hu
    have h1b := fun (wx : World) (x : Int) => one_byte (P := Try.prog) 87 9 5 Try.underlying87 Try.underlying5 Try.underlying9 wx x
    by_cases h : a < 128
    · go_enter Try.func72, Try.ntmps72
      go_wp2_with fail
      go_ret
      exact ⟨ret_str (by unfold chF; rw [if_pos h]), (Below.refl _ _).alloc (Nat.le_refl _) _⟩
    · have hE := Lib.hid (show chF (k + 1) a = UInt8.ofNat (128 + a % 128).toNat :: chF k (a / 128) from by rw [chF, if_neg h])
      have h2 : a / 128 < 128 ^ (k + 1) := by rw [Int.pow_succ] at h1; omega
      have ih := fun wx => Lib.hid (ih (a / 128) wx (by omega) h2 (by omega) (by omega))
      have hs1 := B_one
      have hs2 := chF_size k (a / 128)
      go_enter Try.func72, Try.ntmps72
      go_wp2_with fail
      have e1 : a.tmod 128 = a % 128 := Int.tmod_eq_emod_of_nonneg h0
      have e2 : IntKind.u64.wrap (128 + a % 128) = 128 + a % 128 := IntWalk.u64_in _ (by omega)
      have e3 : IntKind.u8.wrap (128 + a % 128) = 128 + a % 128 := IntWalk.u8_in _ (by omega)
      have e4 : IntKind.u64.wrap (a.tdiv 128) = a / 128 := IntWalk.u64_quo a 128 (by omega)
      have hD := fun (x : Int) => one_byte_at (P := Try.prog) 87 9 5 Try.underlying87 Try.underlying5 Try.underlying9 _ _ x (new_byte w x 5)
      go_region_with (go_at_call 72; refine (ih _).out.mono ?_; rintro e w' ⟨rfl, hb⟩; try (have hK := one_byte_at (P := Try.prog) 87 9 5 Try.underlying87 Try.underlying5 Try.underlying9 _ _ _ (kept_byte w w' _ 5 hb)))
      all_goals go_wp2_with fail
      all_goals go_ret
      · exact ⟨ret_str (by rw [B_append, hE.out]; rfl), ((Below.refl _ w).alloc (Nat.le_refl _) _).drew.trans (hb.mono (Nat.le_of_lt (by simp)))⟩
      · exact ⟨ret_str (by rw [B_append, hE.out]; rfl), ((Below.refl _ w).alloc (Nat.le_refl _) _).drew.trans (hb.mono (Nat.le_of_lt (by simp)))⟩
      · exact ⟨ret_str (by rw [B_append, hE.out]; rfl), ((Below.refl _ w).drew.trans hb).alloc hb.size _⟩
end Go.Proofs.Ytgogackkeodciaa.W

/- The walk of nums.Low. The walks of nums.Fixed and nums.Read, of what may be, and of the definition of Fixed. The walks of the functions on numbers of nums, and of those of its definition. The walks of the functions on bytes of nums, and of those of its definition. -/
import Derived.Test.YtgogackkeodciabGreatDoorProg
import Derived.Test.YtgogackkeodciabGreatDoorText
import Derived.ProofKit
import Derived.OpenShut
import Derived.Below
import Derived.Outline
import Derived.Lib.Hide
import Derived.WalkSpells
import Derived.WalkLawsBesides
section
namespace Go.Proofs.YtgogackkeodciabGreatDoor.W
open Go.RowKit
open Go.Proofs.YtgogackkeodciabGreatDoor.M
set_option linter.unusedVariables false

theorem low_any (a n : Int) (w : World) (h0 : 0 ≤ a) (h1 : a < 18446744073709551616) (h2 : -9223372036854775808 ≤ n) (h3 : n ≤ 9223372036854775807) :
    Calls Tryz.prog 117 #[.int .u64 a, .int .i64 n] w fun e w' => e = .returned (.int .u64 (lowI a n)) ∧ w = w' := by
  by_cases hn : n < 0
  · go_enter Tryz.func117, Tryz.ntmps117
    go_wp2
    go_ret
    exact ⟨ret_int ((and_mask a 0 h0 h1 (by omega)).trans (low_at a 0 n (by omega)).symm), rfl⟩
  · by_cases hn2 : 64 < n
    · go_enter Tryz.func117, Tryz.ntmps117
      go_wp2
      go_ret
      exact ⟨ret_int ((and_mask a 64 h0 h1 (by omega)).trans (low_at a 64 n (by omega)).symm), rfl⟩
    · go_enter Tryz.func117, Tryz.ntmps117
      go_wp2
      go_ret
      exact ⟨ret_int ((and_mask a n.toNat h0 h1 (by omega)).trans (low_at a n.toNat n (by omega)).symm), rfl⟩

end Go.Proofs.YtgogackkeodciabGreatDoor.W
end
section
namespace Go.Proofs.YtgogackkeodciabGreatDoor.W
open Go.RowKit
open Go.Proofs.YtgogackkeodciabGreatDoor.M
set_option linter.unusedVariables false

theorem slice8 (b : Nat) (n : Int) (h0 : 0 ≤ n) (h1 : n ≤ 8) (w : World) :
    (Instr.sliceAt 154 (.pointer (some ⟨b, 0, none⟩)) none (some (.int .i64 n)) none).run Tryz.prog w = .ok (.slice (some ⟨b, 0, none⟩) n.toNat 8) w := by
  have hL : Tryz.prog.arrayLen 154 = 8 := by kernel_rfl
  have hS : ∀ wx, (sizeOf (Tryz.prog.elem 154)).run Tryz.prog wx = .ok 1 wx := fun wx => by kernel_rfl
  rw [run_sliceAt_array_h w 154 ⟨b, 0, none⟩ (by kernel_rfl) .i64 n h0 (by rw [hL]; omega), hS]
  simp [Result.andThen, slicedAt, hL, Addr.add]

theorem fixed_yes (a n : Int) (w : World) (h0 : 0 ≤ a) (h1 : a < 18446744073709551616) (hf : fitsB a n = true) :
    Calls Tryz.prog 97 #[.int .u64 a, .int .i64 n] w fun e w' => e = .returned (.tuple #[.string (B (fx a n.toNat)), .int .i64 0]) ∧ Below w.heap.size w w' := by
  have h23 : 1 ≤ n ∧ n ≤ 8 := by unfold fitsB at hf; simp at hf; omega
  obtain ⟨h2, h3⟩ := h23
  have hl := Lib.hid (fits_low a n h0 hf)
  go_enter Tryz.func97, Tryz.ntmps97
  go_wp2_with (go_at_call 117; refine (low_any a (8 * n) _ h0 h1 (by omega) (by omega)).mono ?_; rintro e w' ⟨rfl, rfl⟩; rw [hl.out])
  go_loopw [7, 23] (fun _ i wr => ∃ k : Nat, (k : Int) ≤ n ∧ i = .int .i64 k ∧ wr = w.alloc (.cells (lay a n.toNat k) 154)) (fun _ i _ => n.toNat - (intOf i).toNat)
  case atStart => exact ⟨0, by omega, rfl, rfl⟩
  case round =>
    obtain ⟨k, hk, rfl, rfl⟩ := hrel
    have hz := lay_size a n.toNat k
    have hbyte := Lib.hid (show a / 2 ^ (8 * k) % 256 = a / 256 ^ k % 256 from by rw [Int.pow_mul]; rfl)
    by_cases hlt : (k : Int) < n
    · obtain ⟨v3, h3c⟩ : ∃ v3, (lay a n.toNat k)[n.toNat - 1 - k]? = some v3 := ⟨_, Array.getElem?_eq_getElem (by omega)⟩
      go_wp2
      go_roundw
      case rel => exact ⟨k + 1, by omega, by go_num, by rw [hbyte.out]; rfl⟩
      case measure => simp [intOf]; omega
    · have hkn := Lib.hid (show k = n.toNat from by omega)
      have hsl := fun wx => slice8 w.heap.size n (by omega) (by omega) wx
      have hcv : (convert 71 9 (.slice (some ⟨w.heap.size, 0, none⟩) n.toNat 8)).run Tryz.prog (w.alloc (.cells (lay a n.toNat k) 154)) = .ok (.string (B (fx a n.toNat))) (w.alloc (.cells (lay a n.toNat k) 154)) := by
        have hlen := fx_length a n.toNat
        have hc := run_convert_bytes_back (P := Tryz.prog) (w.alloc (.cells (lay a n.toNat k) 154)) 71 9 5 ⟨w.heap.size, 0, none⟩ 8 (fx a n.toNat) Tryz.underlying71 Tryz.underlying5 Tryz.underlying9 (by
          intro j hj
          rw [hlen] at hj
          have e1 := fx_get a n.toNat j hj
          rw [List.getElem?_eq_getElem (by omega)] at e1
          have e2 := Option.some.inj e1
          rw [show (⟨w.heap.size, 0, none⟩ : Addr).add j = ⟨w.heap.size, j, none⟩ from by simp [Addr.add]; omega, World.cell?_alloc_new, hkn.out, lay_get a n.toNat (by omega) n.toNat (by omega) j (by omega) hj, e2]
          congr 2
          simp only [UInt8.toNat_ofNat']
          omega)
        rw [hlen] at hc
        exact hc
      go_wp2
      go_ret2
      exact ⟨rfl, (Below.refl _ _).alloc (Nat.le_refl _) _⟩

end Go.Proofs.YtgogackkeodciabGreatDoor.W
end
section
namespace Go.Proofs.YtgogackkeodciabGreatDoor.W
open Go.RowKit
open Go.Proofs.YtgogackkeodciabGreatDoor.M
set_option linter.unusedVariables false

end Go.Proofs.YtgogackkeodciabGreatDoor.W
end
section
namespace Go.Proofs.YtgogackkeodciabGreatDoor.W
open Go.RowKit
open Go.Proofs.YtgogackkeodciabGreatDoor.M
set_option linter.unusedVariables false


theorem fixed_no (a n : Int) (w : World) (h0 : 0 ≤ a) (h1 : a < 18446744073709551616) (h2 : -9223372036854775808 ≤ n) (h3 : n ≤ 9223372036854775807) (hf : fitsB a n = false) :
    Calls Tryz.prog 97 #[.int .u64 a, .int .i64 n] w fun e w' => e = .returned (.tuple #[.string (B []), .int .i64 1]) ∧ Below w.heap.size w w' := by
  by_cases hn : n < 1
  · go_enter Tryz.func97, Tryz.ntmps97
    go_wp2
    go_ret2
    exact ⟨rfl, Below.refl _ _⟩
  · by_cases hn2 : 8 < n
    · go_enter Tryz.func97, Tryz.ntmps97
      go_wp2
      go_ret2
      exact ⟨rfl, Below.refl _ _⟩
    · have hl := fits_not_low a n h0 (by omega) (by omega) hf
      go_enter Tryz.func97, Tryz.ntmps97
      go_wp2_with (go_at_call 117; refine (low_any a (8 * n) _ h0 h1 (by omega) (by omega)).mono ?_; rintro e w' ⟨rfl, rfl⟩)
      go_ret2
      exact ⟨rfl, Below.refl _ _⟩
end Go.Proofs.YtgogackkeodciabGreatDoor.W
end

/- The small case that each statement of layer 1 asks. -/
import Derived.Test.YtngacdajagegcaaUntexts
import Derived.Test.YtngacdajagegcaaNumbers
namespace Go.Proofs.Ytngacdajagegcaa.W
open Go.RowKit
open Go.Proofs.Ytngacdajagegcaa.M
set_option linter.unusedVariables false

set_option maxRecDepth 100000 in
set_option maxHeartbeats 1000000 in
theorem some_any (w : World) :
    Calls Try.prog 15 #[] w fun e w' => e = .returned (.bool true) ∧ Below w.heap.size w w' := by
  go_enter Try.func15, Try.ntmps15
  go_wp2_with fail
  refine (fixed_yes 258 3 _ (by omega) (by omega) (by decide)).mono ?_
  rintro e w1 ⟨rfl, hb1⟩
  rw [show B (fx 258 (Int.toNat 3)) = ⟨#[0, 1, 2]⟩ from by decide]
  go_wp2_with fail
  refine (unchain_any ⟨#[172, 2, 120]⟩ _ (by decide)).mono ?_
  rintro e w2 ⟨rfl, rfl⟩
  rw [show unch (ByteArray.mk #[172, 2, 120]).data.toList = (300, 2, 0) from by decide]
  go_wp2_with fail
  refine (chain_any 300 _ (by omega) (by omega)).mono ?_
  rintro e w3 ⟨rfl, hb3⟩
  rw [show B (chain 300) = ⟨#[172, 2]⟩ from by decide]
  go_wp2_with fail
  refine (fold_any (-3) _ (by omega) (by omega)).mono ?_
  rintro e w4 ⟨rfl, rfl⟩
  rw [show foldI (-3) = 5 from by decide]
  go_wp2_with fail
  refine (signed_any 255 8 _ (by omega) (by omega) (by omega) (by omega)).mono ?_
  rintro e w5 ⟨rfl, rfl⟩
  rw [show signedI 255 8 = -1 from by decide]
  go_wp2_with fail
  refine (text_any ⟨#[97, 98]⟩ _ (by decide)).mono ?_
  rintro e w6 ⟨rfl, hb6⟩
  rw [show B (textL (ByteArray.mk #[97, 98]).data.toList) = ⟨#[2, 97, 98]⟩ from by decide]
  go_wp2_with fail
  go_ret
  exact ⟨rfl, (hb1.trans (hb3.mono hb1.size)).trans (hb6.mono (Nat.le_trans hb1.size hb3.size))⟩
end Go.Proofs.Ytngacdajagegcaa.W

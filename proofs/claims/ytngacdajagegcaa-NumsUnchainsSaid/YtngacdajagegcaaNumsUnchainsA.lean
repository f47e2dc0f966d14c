/- A part of the proof of NumsUnchains. -/
import Derived.Test.YtngacdajagegcaaRows
import Derived.Test.YtngacdajagegcaaSome
import Derived.Test.YtngacdajagegcaaChainBack
import Derived.Test.YtngacdajagegcaaWorld
import Derived.Deep.RegionWith
import Derived.ChangeOld
import Derived.ShutString
namespace Go.Proofs.Ytngacdajagegcaa.numsUnchains
open Go.ChangeShapes Go.WideShapes Go.ChangeAt Go.RowKit
open Go.ChangeMaps (open_string shut_string)
open Go.Proofs.Ytngacdajagegcaa.M Go.Proofs.Ytngacdajagegcaa.W
set_option linter.unusedVariables false

set_option maxHeartbeats 4000000 in
theorem walk_bad (x : Int) (hx : x = 3 ∨ x = 4) (a0 : ByteArray) (w : World) (hl : ¬ 100 < a0.size) (v n : Int) (hU : unch a0.data.toList = (v, n, x)) :
    Calls Try.prog 5 #[.string a0] w fun e w' => e = .returned (.bool true) ∧ Below w.heap.size w w' := by
  rcases hx with rfl | rfl
  all_goals
    replace hU := Lib.hid hU
    go_enter Try.func5, Try.ntmps5
    go_wp2_with fail
    refine (unchain_any a0 _ (by omega)).mono ?_
    rintro e w1 ⟨rfl, rfl⟩
    rw [hU.out]
    go_wp2_with fail
    refine (runchain_any a0 _ (by omega)).mono ?_
    rintro e w1 ⟨rfl, rfl⟩
    rw [hU.out]
    go_wp2_with fail
    generalize hw2 : World.alloc _ _ = w2
    have hb0 : Below w.heap.size w w2 := by rw [← hw2]; exact (((Below.refl _ _).alloc (Nat.le_refl _) _).alloc (by simp) _)
    clear hw2
    first | (go_region_with (go_at_call 15; refine (some_any _).mono ?_; rintro e w3 ⟨rfl, hb2⟩)) | fail
    all_goals go_wp2_with fail
    all_goals go_ret
    all_goals exact ⟨rfl, hb0.drew.trans (hb2.mono hb0.size)⟩
end Go.Proofs.Ytngacdajagegcaa.numsUnchains

/- The walk of strings.Clone. -/
import Derived.Test.YtgogackkeodciabGreatDoorProg
import Derived.Test.YtgogackkeodciabGreatDoorShelf
import Derived.ProofKit
import Derived.Below
import Derived.Outline
import Derived.Lib.Hide
namespace Go.Proofs.YtgogackkeodciabGreatDoor.W
open Go.RowKit
set_option linter.unusedVariables false

theorem clone_str (s : ByteArray) (w : World) (hs : s.size ≤ 281474976710656) :
    Calls Tryz.prog 92 #[.string s] w fun e w' => e = .returned (.string s) ∧ Below w.heap.size w w' := by
  go_enter Tryz.func92, Tryz.ntmps92
  go_wp2_with (go_at_call 106; refine (Tryz.stringslite_Clone _ _ hs).mono ?_; rintro e w' ⟨rfl, hb⟩)
  go_ret
  exact ⟨rfl, hb⟩
end Go.Proofs.YtgogackkeodciabGreatDoor.W

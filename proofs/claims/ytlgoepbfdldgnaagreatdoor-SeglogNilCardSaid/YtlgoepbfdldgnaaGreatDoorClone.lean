/- The walk of strings.Clone. -/
import Derived.Test.YtlgoepbfdldgnaaGreatDoorProg
import Derived.Test.YtlgoepbfdldgnaaGreatDoorShelf
import Derived.ProofKit
import Derived.Below
import Derived.Outline
import Derived.Lib.Hide
namespace Go.Proofs.YtlgoepbfdldgnaaGreatDoor.W
open Go.RowKit
set_option linter.unusedVariables false

theorem clone_str (s : ByteArray) (w : World) (hs : s.size ≤ 281474976710656) :
    Calls Tryz.prog 113 #[.string s] w fun e w' => e = .returned (.string s) ∧ Below w.heap.size w w' := by
  go_enter Tryz.func113, Tryz.ntmps113
  go_wp2_with (go_at_call 132; refine (Tryz.stringslite_Clone _ _ hs).mono ?_; rintro e w' ⟨rfl, hb⟩)
  go_ret
  exact ⟨rfl, hb⟩
end Go.Proofs.YtlgoepbfdldgnaaGreatDoor.W

/- The walk of strings.Clone. -/
import Derived.Test.YtlgoepbfdldgnaaDoorProg
import Derived.Test.YtlgoepbfdldgnaaDoorShelf
import Derived.ProofKit
import Derived.Below
import Derived.Outline
import Derived.Lib.Hide
namespace Go.Proofs.YtlgoepbfdldgnaaDoor.W
open Go.RowKit
set_option linter.unusedVariables false

theorem clone_str (s : ByteArray) (w : World) (hs : s.size ≤ 281474976710656) :
    Calls Tryd.prog 60 #[.string s] w fun e w' => e = .returned (.string s) ∧ Below w.heap.size w w' := by
  go_enter Tryd.func60, Tryd.ntmps60
  go_wp2_with (go_at_call 101; refine (Tryd.stringslite_Clone _ _ hs).mono ?_; rintro e w' ⟨rfl, hb⟩)
  go_ret
  exact ⟨rfl, hb⟩
end Go.Proofs.YtlgoepbfdldgnaaDoor.W

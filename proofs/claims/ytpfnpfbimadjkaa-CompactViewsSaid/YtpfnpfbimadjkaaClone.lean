/- The walk of strings.Clone. -/
import Derived.Test.YtpfnpfbimadjkaaProg
import Derived.Test.YtpfnpfbimadjkaaShelf
import Derived.ProofKit
import Derived.Below
import Derived.Outline
import Derived.Lib.Hide
namespace Go.Proofs.Ytpfnpfbimadjkaa.W
open Go.RowKit
set_option linter.unusedVariables false

theorem clone_str (s : ByteArray) (w : World) (hs : s.size ≤ 281474976710656) :
    Calls Try.prog 69 #[.string s] w fun e w' => e = .returned (.string s) ∧ Below w.heap.size w w' := by
  go_enter Try.func69, Try.ntmps69
  go_wp2_with (go_at_call 75; refine (Try.stringslite_Clone _ _ hs).mono ?_; rintro e w' ⟨rfl, hb⟩)
  go_ret
  exact ⟨rfl, hb⟩
end Go.Proofs.Ytpfnpfbimadjkaa.W

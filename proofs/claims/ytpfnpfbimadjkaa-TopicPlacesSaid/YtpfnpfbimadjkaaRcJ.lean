/- The definition's records: May, chain, Encode. -/
import Derived.Test.YtpfnpfbimadjkaaRcB
import Derived.Test.YtpfnpfbimadjkaaQuietB
import Derived.Deep.Cut
namespace Go.Proofs.Ytpfnpfbimadjkaa.W
open Go.RowKit Go.Sort
open Go.Proofs.Ytpfnpfbimadjkaa.M Go.Proofs.Ytpfnpfbimadjkaa.D
set_option linter.unusedVariables false
set_option linter.unusedSimpArgs false

def isUp (n m : Int) : Bool := decide (0 ≤ n ∧ n ≤ m)
theorem gone_bytes (g : Bool) : B (chain (goneI g)) = if g then ⟨#[1]⟩ else ⟨#[0]⟩ := by cases g <;> decide
end Go.Proofs.Ytpfnpfbimadjkaa.W

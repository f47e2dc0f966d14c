/- The walks of the CRC of sums, and of its definition. The walks of a sum that goes on: one block of the call's own. -/
import Derived.Test.YtgogackkeodciaaProg
import Derived.Test.YtgogackkeodciaaSum
import Derived.Test.YtgogackkeodciaaWorld
import Derived.ProofKit
import Derived.OpenShut
import Derived.Below
import Derived.Outline
import Derived.Lib.Hide
section
namespace Go.Proofs.Ytgogackkeodciaa.W
open Go.RowKit
open Go.Proofs.Ytgogackkeodciaa.M
set_option linter.unusedVariables false

theorem u32_xor_any (a b : Nat) (ha : a < 4294967296) (hb : b < 4294967296) : bits .xor .u32 (a : Int) (b : Int) = ((a ^^^ b : Nat) : Int) := u32_xor_nat a b ha hb

end Go.Proofs.Ytgogackkeodciaa.W
end
section
namespace Go.Proofs.Ytgogackkeodciaa.W
open Go.RowKit
open Go.Proofs.Ytgogackkeodciaa.M
set_option linter.unusedVariables false

end Go.Proofs.Ytgogackkeodciaa.W
end

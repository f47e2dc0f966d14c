/- The walks of the functions on numbers of nums, and of those of its definition. -/
import Derived.Test.YtkmlmondhmpkkaaProg
import Derived.Test.YtkmlmondhmpkkaaMath
import Derived.Test.YtkmlmondhmpkkaaLowNum
import Derived.ProofKit
import Derived.OpenShut
import Derived.Below
import Derived.Outline
import Derived.Lib.Hide
namespace Go.Proofs.Ytkmlmondhmpkkaa.W
open Go.RowKit
open Go.Proofs.Ytkmlmondhmpkkaa.M
set_option linter.unusedVariables false

end Go.Proofs.Ytkmlmondhmpkkaa.W

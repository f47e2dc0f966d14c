/- The walks of the functions on numbers of nums, and of those of its definition. -/
import Derived.Test.YtoegohofmhijgaaDoorProg
import Derived.Test.YtoegohofmhijgaaDoorText
import Derived.Test.YtoegohofmhijgaaDoorLowNum
import Derived.ProofKit
import Derived.OpenShut
import Derived.Below
import Derived.Outline
import Derived.Lib.Hide
namespace Go.Proofs.YtoegohofmhijgaaDoor.W
open Go.RowKit
open Go.Proofs.YtoegohofmhijgaaDoor.M
set_option linter.unusedVariables false

end Go.Proofs.YtoegohofmhijgaaDoor.W

/- The walk of nums.Low. -/
import Derived.Test.YtoegohofmhijgaaProg
import Derived.Test.YtoegohofmhijgaaText
import Derived.ProofKit
import Derived.OpenShut
import Derived.Below
import Derived.Outline
import Derived.Lib.Hide
namespace Go.Proofs.Ytoegohofmhijgaa.W
open Go.RowKit
open Go.Proofs.Ytoegohofmhijgaa.M
set_option linter.unusedVariables false

end Go.Proofs.Ytoegohofmhijgaa.W

/- The walk of nums.Low. The walks of nums.Fixed and nums.Read, of what may be, and of the definition of Fixed. The walks of the functions on numbers of nums, and of those of its definition. The walks of the functions on bytes of nums, and of those of its definition. -/
import Derived.Test.YtnekiiahgidkoaaProg
import Derived.Test.YtnekiiahgidkoaaText
import Derived.ProofKit
import Derived.OpenShut
import Derived.Below
import Derived.Outline
import Derived.Lib.Hide
import Derived.WalkSpells
import Derived.WalkLawsBesides
section
namespace Go.Proofs.Ytnekiiahgidkoaa.W
open Go.RowKit
open Go.Proofs.Ytnekiiahgidkoaa.M
set_option linter.unusedVariables false

end Go.Proofs.Ytnekiiahgidkoaa.W
end
section
namespace Go.Proofs.Ytnekiiahgidkoaa.W
open Go.RowKit
open Go.Proofs.Ytnekiiahgidkoaa.M
set_option linter.unusedVariables false

end Go.Proofs.Ytnekiiahgidkoaa.W
end
section
namespace Go.Proofs.Ytnekiiahgidkoaa.W
open Go.RowKit
open Go.Proofs.Ytnekiiahgidkoaa.M
set_option linter.unusedVariables false

end Go.Proofs.Ytnekiiahgidkoaa.W
end
section
namespace Go.Proofs.Ytnekiiahgidkoaa.W
open Go.RowKit
open Go.Proofs.Ytnekiiahgidkoaa.M
set_option linter.unusedVariables false


end Go.Proofs.Ytnekiiahgidkoaa.W
end

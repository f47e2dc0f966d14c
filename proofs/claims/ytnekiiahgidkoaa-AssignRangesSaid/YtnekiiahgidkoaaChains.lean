/- The walks of nums.Chain and of its definition. -/
import Derived.Test.YtnekiiahgidkoaaProg
import Derived.Test.YtnekiiahgidkoaaShelf
import Derived.Test.YtnekiiahgidkoaaUnchain
import Derived.Test.YtnekiiahgidkoaaFixed
import Derived.ProofKit
import Derived.OpenShut
import Derived.Below
import Derived.Outline
import Derived.Lib.Hide
import Derived.WalkSpells
import Derived.WalkLawsBesides
import Derived.Deep.RegionWith
import Derived.StillTailTactics
namespace Go.Proofs.Ytnekiiahgidkoaa.W
open Go.RowKit
open Go.Proofs.Ytnekiiahgidkoaa.M
set_option linter.unusedVariables false

end Go.Proofs.Ytnekiiahgidkoaa.W

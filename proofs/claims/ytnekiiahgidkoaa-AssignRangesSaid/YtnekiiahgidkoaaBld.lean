/- strings.Builder: copyCheck and WriteString of a builder of the call's own (where a dump refuses copyCheck's panic, the library's contracts are not laid). -/
import Derived.Test.YtnekiiahgidkoaaProg
import Derived.Test.YtnekiiahgidkoaaShelf
import Derived.Test.YtnekiiahgidkoaaText
import Derived.ProofKit
import Derived.Below
import Derived.Outline
import Derived.Lib.Hide
import Derived.Lib.Builder
import Derived.Lib.FrozenHead
import Derived.Laws.Externs
namespace Go.Proofs.Ytnekiiahgidkoaa.W
open Go.RowKit
open Go.Proofs.Ytnekiiahgidkoaa.M
set_option linter.unusedVariables false
set_option linter.unusedSimpArgs false

theorem infoByteB : (Try.prog.info? 5).map (fun i => (i.zero, i.size, i.bytes)) = some (some (.int .u8 0), 1, 1) := by kernel_rfl

end Go.Proofs.Ytnekiiahgidkoaa.W

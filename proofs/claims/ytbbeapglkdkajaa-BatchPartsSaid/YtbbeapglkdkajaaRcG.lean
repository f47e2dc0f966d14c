/- Package record's check, Pack. -/
import Derived.Test.YtbbeapglkdkajaaRcF
import Derived.Test.YtbbeapglkdkajaaStops
import Derived.Deep.AppendLies
namespace Go.Proofs.Ytbbeapglkdkajaa.W
open Go.RowKit Go.Sort
open Go.Proofs.Ytbbeapglkdkajaa.M Go.Proofs.Ytbbeapglkdkajaa.D Go.Proofs.Ytbbeapglkdkajaa.Z
set_option linter.unusedVariables false
set_option linter.unusedSimpArgs false

end Go.Proofs.Ytbbeapglkdkajaa.W

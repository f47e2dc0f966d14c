/- Package record's check, Pack. -/
import Derived.Test.YtahljbjgenepaaaRcF
import Derived.Test.YtahljbjgenepaaaStops
import Derived.Deep.AppendLies
namespace Go.Proofs.Ytahljbjgenepaaa.W
open Go.RowKit Go.Sort
open Go.Proofs.Ytahljbjgenepaaa.M Go.Proofs.Ytahljbjgenepaaa.D Go.Proofs.Ytahljbjgenepaaa.Z
set_option linter.unusedVariables false
set_option linter.unusedSimpArgs false

end Go.Proofs.Ytahljbjgenepaaa.W

/- Package record's check, Pack. -/
import Derived.Test.YtpfnpfbimadjkaaRcF
import Derived.Test.YtpfnpfbimadjkaaStops
import Derived.Deep.AppendLies
namespace Go.Proofs.Ytpfnpfbimadjkaa.W
open Go.RowKit Go.Sort
open Go.Proofs.Ytpfnpfbimadjkaa.M Go.Proofs.Ytpfnpfbimadjkaa.D Go.Proofs.Ytpfnpfbimadjkaa.Z
set_option linter.unusedVariables false
set_option linter.unusedSimpArgs false

end Go.Proofs.Ytpfnpfbimadjkaa.W

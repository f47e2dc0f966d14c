/- Package record's reads (a panic that is recovered), Decode. -/
import Derived.Test.YtpfnpfbimadjkaaRcD
import Derived.Defers
import Derived.Recover
import Derived.Test.YtpfnpfbimadjkaaCells
namespace Go.Proofs.Ytpfnpfbimadjkaa.W
open Go.RowKit Go.Sort
open Go.Proofs.Ytpfnpfbimadjkaa.M Go.Proofs.Ytpfnpfbimadjkaa.D
set_option linter.unusedVariables false
set_option linter.unusedSimpArgs false

/-- No record. -/
abbrev rc0 : Rc := ⟨0, 0, ⟨#[]⟩, ⟨#[]⟩, false, 0, 0, 0⟩
end Go.Proofs.Ytpfnpfbimadjkaa.W

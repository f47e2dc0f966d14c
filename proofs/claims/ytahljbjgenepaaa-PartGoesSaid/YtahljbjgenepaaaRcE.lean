/- Package record's reads (a panic that is recovered), Decode. -/
import Derived.Test.YtahljbjgenepaaaRcD
import Derived.Defers
import Derived.Recover
import Derived.Test.YtahljbjgenepaaaCells
namespace Go.Proofs.Ytahljbjgenepaaa.W
open Go.RowKit Go.Sort
open Go.Proofs.Ytahljbjgenepaaa.M Go.Proofs.Ytahljbjgenepaaa.D
set_option linter.unusedVariables false
set_option linter.unusedSimpArgs false

/-- No record. -/
abbrev rc0 : Rc := ⟨0, 0, ⟨#[]⟩, ⟨#[]⟩, false, 0, 0, 0⟩
end Go.Proofs.Ytahljbjgenepaaa.W

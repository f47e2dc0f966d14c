/- Package record's reads (a panic that is recovered), Decode. -/
import Derived.Test.YtbbeapglkdkajaaRcD
import Derived.Defers
import Derived.Recover
import Derived.Test.YtbbeapglkdkajaaCells
namespace Go.Proofs.Ytbbeapglkdkajaa.W
open Go.RowKit Go.Sort
open Go.Proofs.Ytbbeapglkdkajaa.M Go.Proofs.Ytbbeapglkdkajaa.D
set_option linter.unusedVariables false
set_option linter.unusedSimpArgs false

/-- No record. -/
abbrev rc0 : Rc := ⟨0, 0, ⟨#[]⟩, ⟨#[]⟩, false, 0, 0, 0⟩
end Go.Proofs.Ytbbeapglkdkajaa.W

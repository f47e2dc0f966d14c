/- The law's torn: a write of which three bytes stay. -/
import Derived.Test.YtkmlmondhmpkkaaProg
import Derived.Test.YtkmlmondhmpkkaaCrash
namespace Go.Proofs.Ytkmlmondhmpkkaa.D
open Go.RowKit
set_option linter.unusedVariables false

def stayed : List UInt8 := List.replicate 3 120 ++ List.replicate 61 0
theorem kept_3 : (kepts (([(1, fillL 120)] : List (Nat × List UInt8)).filter (spanB 0 2)) (zeros 4) [((0 : Int), (3 : Int))])[1]? = some stayed := by decide
theorem kept_none : ([(1, fillL 120)] : List (Nat × List UInt8)).filter (keepB 0 2) = [] := by decide
theorem str_eq : (⟨#[120, 120, 120]⟩ : ByteArray) ++ (⟨(fillL 0).toArray⟩ : ByteArray).extract 3 64 = ⟨stayed.toArray⟩ := by kernel_rfl

end Go.Proofs.Ytkmlmondhmpkkaa.D

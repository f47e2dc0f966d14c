/- Package record's reader: demand, pass, number, flag, text. Where a field is not there the call panics with a fault. -/
import Derived.Test.YtpfnpfbimadjkaaRcB
import Derived.Test.YtpfnpfbimadjkaaQuietB
namespace Go.Proofs.Ytpfnpfbimadjkaa.W
open Go.RowKit Go.Sort
open Go.Proofs.Ytpfnpfbimadjkaa.M Go.Proofs.Ytpfnpfbimadjkaa.D
set_option linter.unusedVariables false
set_option linter.unusedSimpArgs false

/-- A reader's cells; what a failing call panics with. -/
abbrev rdL (s : ByteArray) (p : Nat) : List Value := [.string s, .int .i64 (p : Int)]
theorem slice_from (s : ByteArray) (p : Nat) (hp : p ≤ s.size) (W : World) : (Instr.sliceAt 9 (.string s) (some (.int .i64 (p : Int))) none none).run Try.prog W = .ok (.string (s.extract p s.size)) W := by
  have h1 : (p : Int) ≤ (s.size : Int) := by omega
  simp [go_sem, h1, Try.underlying9]

end Go.Proofs.Ytpfnpfbimadjkaa.W

/- Package record's Encode: lay, Encode, Size. -/
import Derived.Test.YtpfnpfbimadjkaaBld
import Derived.Test.YtpfnpfbimadjkaaRcA
import Derived.Test.YtpfnpfbimadjkaaUntexts
import Derived.Deep.QuietTactic
import Derived.BigQuiet
import Derived.LoopN
import Derived.Test.YtpfnpfbimadjkaaFlat
namespace Go.Proofs.Ytpfnpfbimadjkaa.W
open Go.RowKit
open Go.Proofs.Ytpfnpfbimadjkaa.M Go.Proofs.Ytpfnpfbimadjkaa.D
set_option linter.unusedVariables false
set_option linter.unusedSimpArgs false

theorem sizeI64r : ∀ w, (Go.sizeOf 3).run Try.prog w = .ok 1 w := fun w => by kernel_rfl
theorem aggI64r : ∀ w, (isAgg 3).run Try.prog w = .ok false w := fun w => by kernel_rfl
theorem up {a b c : World} {n : Nat} (h : Below n a b) (hn : n ≤ b.heap.size) (k : Below b.heap.size b c) : Below n a c := h.trans (k.mono hn)

theorem recCells {W : World} {b : Nat} {o t : Int} {k v : ByteArray} {g : Bool} {p q f : Int} (h : Whole W b 32 [.int .i64 o, .int .i64 t, .string k, .string v, .bool g, .int .i64 p, .int .i64 q, .int .i64 f]) :
    W.cell? ⟨b, 0, none⟩ = some (.int .i64 o) ∧ W.cell? ⟨b, 1, none⟩ = some (.int .i64 t) ∧ W.cell? ⟨b, 2, none⟩ = some (.string k) ∧ W.cell? ⟨b, 3, none⟩ = some (.string v) ∧ W.cell? ⟨b, 4, none⟩ = some (.bool g) ∧ W.cell? ⟨b, 5, none⟩ = some (.int .i64 p) ∧ W.cell? ⟨b, 6, none⟩ = some (.int .i64 q) ∧ W.cell? ⟨b, 7, none⟩ = some (.int .i64 f) :=
  ⟨h.cell 0, h.cell 1, h.cell 2, h.cell 3, h.cell 4, h.cell 5, h.cell 6, h.cell 7⟩

end Go.Proofs.Ytpfnpfbimadjkaa.W

/- Small facts on worlds that only grow; nothing of the program. -/
import Derived.WalkKit
import Derived.Below
namespace Go.Proofs.Ytnekiiahgidkoaa.M
open Go.RowKit
set_option linter.unusedVariables false
theorem grew {a b c : World} (h : Below a.heap.size a b) (k : Below b.heap.size b c) : Below a.heap.size a c := h.trans (k.mono h.size)
theorem grewAlloc {a b : World} (h : Below a.heap.size a b) (o : Obj) : Below a.heap.size a (b.alloc o) := h.alloc h.size o
end Go.Proofs.Ytnekiiahgidkoaa.M

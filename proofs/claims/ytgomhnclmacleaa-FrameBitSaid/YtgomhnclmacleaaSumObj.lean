/- The walks of a sum that goes on: one block of the call's own. -/
import Derived.Test.YtgomhnclmacleaaProg
import Derived.Test.YtgomhnclmacleaaCrc
import Derived.ProofKit
import Derived.OpenShut
import Derived.Below
import Derived.Outline
import Derived.Lib.Hide
namespace Go.Proofs.Ytgomhnclmacleaa.W
open Go.RowKit
open Go.Proofs.Ytgomhnclmacleaa.M
set_option linter.unusedVariables false

theorem sumNew_any (b : Nat) (w : World) :
    Calls Try.prog 88 #[.int .u32 b] w fun e w' => e = .returned (.pointer (some ⟨w.heap.size, 0, none⟩)) ∧ w' = w.alloc (.cells #[.int .u32 b] 146) := by
  go_enter Try.func88, Try.ntmps88
  go_wp2
  go_ret
  exact ⟨rfl, rfl⟩
theorem sumAdd_any (c : Nat) (hc : c < 4294967296) (s : ByteArray) (hs : s.size ≤ 1099511627776) (w : World) :
    Calls Try.prog 89 #[.pointer (some ⟨w.heap.size, 0, none⟩), .string s] (w.alloc (.cells #[.int .u32 c] 146)) fun e w' => e = .returned (.tuple #[]) ∧ w' = w.alloc (.cells #[.int .u32 (crc c s.data.toList : Nat)] 146) := by
  go_enter Try.func89, Try.ntmps89
  go_wp2_with (go_at_call 92; refine (crc_any c s _ hc hs).mono ?_; rintro e w' ⟨rfl, rfl⟩)
  go_end0
  exact ⟨rfl, rfl⟩
theorem sumValue_any (c : Nat) (w : World) :
    Calls Try.prog 90 #[.pointer (some ⟨w.heap.size, 0, none⟩)] (w.alloc (.cells #[.int .u32 c] 146)) fun e w' => e = .returned (.int .u32 c) ∧ w' = w.alloc (.cells #[.int .u32 c] 146) := by
  go_enter Try.func90, Try.ntmps90
  go_wp2
  go_ret
  exact ⟨rfl, rfl⟩

end Go.Proofs.Ytgomhnclmacleaa.W

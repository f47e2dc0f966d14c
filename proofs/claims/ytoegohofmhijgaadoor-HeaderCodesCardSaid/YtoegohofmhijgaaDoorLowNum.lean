/- The walk of nums.Low. -/
import Derived.Test.YtoegohofmhijgaaDoorProg
import Derived.Test.YtoegohofmhijgaaDoorText
import Derived.ProofKit
import Derived.OpenShut
import Derived.Below
import Derived.Outline
import Derived.Lib.Hide
namespace Go.Proofs.YtoegohofmhijgaaDoor.W
open Go.RowKit
open Go.Proofs.YtoegohofmhijgaaDoor.M
set_option linter.unusedVariables false

theorem low_any (a n : Int) (w : World) (h0 : 0 ≤ a) (h1 : a < 18446744073709551616) (h2 : -9223372036854775808 ≤ n) (h3 : n ≤ 9223372036854775807) :
    Calls Tryd.prog 32 #[.int .u64 a, .int .i64 n] w fun e w' => e = .returned (.int .u64 (lowI a n)) ∧ w = w' := by
  by_cases hn : n < 0
  · go_enter Tryd.func32, Tryd.ntmps32
    go_wp2
    go_ret
    exact ⟨ret_int ((and_mask a 0 h0 h1 (by omega)).trans (low_at a 0 n (by omega)).symm), rfl⟩
  · by_cases hn2 : 64 < n
    · go_enter Tryd.func32, Tryd.ntmps32
      go_wp2
      go_ret
      exact ⟨ret_int ((and_mask a 64 h0 h1 (by omega)).trans (low_at a 64 n (by omega)).symm), rfl⟩
    · go_enter Tryd.func32, Tryd.ntmps32
      go_wp2
      go_ret
      exact ⟨ret_int ((and_mask a n.toNat h0 h1 (by omega)).trans (low_at a n.toNat n (by omega)).symm), rfl⟩

end Go.Proofs.YtoegohofmhijgaaDoor.W

/- The walks of nums.Unchain and of its definition. -/
import Derived.Test.YtnekiiahgidkoaaProg
import Derived.Test.YtnekiiahgidkoaaUnchain
import Derived.ProofKit
import Derived.OpenShut
import Derived.Below
import Derived.Outline
import Derived.Lib.Hide
import Derived.WalkSpells
import Derived.WalkLawsBesides
namespace Go.Proofs.Ytnekiiahgidkoaa.W
open Go.RowKit
open Go.Proofs.Ytnekiiahgidkoaa.M
set_option linter.unusedVariables false

theorem ret_three' {a1 a2 a3 b1 b2 b3 : Int} (h : (a1, a2, a3) = (b1, b2, b3)) :
    Ending.returned (.tuple #[.int .u64 a1, .int .i64 a2, .int .i64 a3]) = .returned (.tuple #[.int .u64 b1, .int .i64 b2, .int .i64 b3]) := by
  simp only [Prod.mk.injEq] at h
  rw [h.1, h.2.1, h.2.2]

theorem ret_agg3 {a1 a2 a3 b1 b2 b3 : Int} (h : (a1, a2, a3) = (b1, b2, b3)) :
    Ending.returned (.agg #[.int .u64 a1, .int .i64 a2, .int .i64 a3]) = .returned (.agg #[.int .u64 b1, .int .i64 b2, .int .i64 b3]) := by
  simp only [Prod.mk.injEq] at h
  rw [h.1, h.2.1, h.2.2]

theorem world_agg3 (w : World) (T : TypeId) {a1 a2 a3 b1 b2 b3 : Int} (h : (a1, a2, a3) = (b1, b2, b3)) :
    w.alloc (.cells #[.int .u64 a1, .int .i64 a2, .int .i64 a3] T) = w.alloc (.cells #[.int .u64 b1, .int .i64 b2, .int .i64 b3] T) := by
  simp only [Prod.mk.injEq] at h
  rw [h.1, h.2.1, h.2.2]

end Go.Proofs.Ytnekiiahgidkoaa.W

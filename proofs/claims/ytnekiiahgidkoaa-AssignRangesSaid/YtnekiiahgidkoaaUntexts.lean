/- The walks of nums.Text and nums.Untext, and of their definitions. -/
import Derived.Test.YtnekiiahgidkoaaProg
import Derived.Test.YtnekiiahgidkoaaUntext
import Derived.Test.YtnekiiahgidkoaaChains
import Derived.Test.YtnekiiahgidkoaaUnchains
import Derived.Deep.QuietTactic
import Derived.BigQuiet
import Derived.BigRegion
namespace Go.Proofs.Ytnekiiahgidkoaa.W
open Go.RowKit
open Go.Proofs.Ytnekiiahgidkoaa.M
set_option linter.unusedVariables false

theorem text_size (s : ByteArray) : (B (chain s.size)).size ≤ 10 := chF_size 9 _
theorem text_eq (s : ByteArray) : B (chain s.size) ++ s = B (textL s.data.toList) := by
  have : s.data.toList.length = s.size := by simp
  unfold textL
  rw [this, ← B_append]
  rfl

theorem ret_three_s {a1 b1 : ByteArray} {a2 a3 b2 b3 : Int} (h : (a1, a2, a3) = (b1, b2, b3)) :
    Ending.returned (.tuple #[.string a1, .int .i64 a2, .int .i64 a3]) = .returned (.tuple #[.string b1, .int .i64 b2, .int .i64 b3]) := by
  simp only [Prod.mk.injEq] at h
  rw [h.1, h.2.1, h.2.2]
theorem ret_agg_s {a1 b1 : ByteArray} {a2 a3 b2 b3 : Int} (h : (a1, a2, a3) = (b1, b2, b3)) :
    Ending.returned (.agg #[.string a1, .int .i64 a2, .int .i64 a3]) = .returned (.agg #[.string b1, .int .i64 b2, .int .i64 b3]) := by
  simp only [Prod.mk.injEq] at h
  rw [h.1, h.2.1, h.2.2]

end Go.Proofs.Ytnekiiahgidkoaa.W

/- The walks of nums.Text and nums.Untext, and of their definitions. -/
import Derived.Test.YtahljbjgenepaaaProg
import Derived.Test.YtahljbjgenepaaaUntext
import Derived.Test.YtahljbjgenepaaaChains
import Derived.Test.YtahljbjgenepaaaUnchains
import Derived.Deep.QuietTactic
import Derived.BigQuiet
import Derived.BigRegion
namespace Go.Proofs.Ytahljbjgenepaaa.W
open Go.RowKit
open Go.Proofs.Ytahljbjgenepaaa.M
set_option linter.unusedVariables false

theorem text_size (s : ByteArray) : (B (chain s.size)).size ≤ 10 := chF_size 9 _
theorem text_eq (s : ByteArray) : B (chain s.size) ++ s = B (textL s.data.toList) := by
  have : s.data.toList.length = s.size := by simp
  unfold textL
  rw [this, ← B_append]
  rfl

theorem text_any (s : ByteArray) (w : World) (hs : s.size ≤ 1099511627776) :
    Calls Try.prog 65 #[.string s] w fun e w' => e = .returned (.string (B (textL s.data.toList))) ∧ Below w.heap.size w w' := by
  have hz := text_size s
  go_enter Try.func65, Try.ntmps65
  go_wp2_with (go_at_call 64; refine (chain_any _ _ (by omega) (by omega)).mono ?_; rintro e w' ⟨rfl, hb⟩)
  go_ret
  exact ⟨ret_str (text_eq s), hb⟩

theorem rtext_any (s : ByteArray) (w : World) (hs : s.size ≤ 1099511627776) :
    Calls Try.prog 56 #[.string s] w fun e w' => e = .returned (.string (B (textL s.data.toList))) ∧ Below w.heap.size w w' := by
  have hz : (B (chF 9 s.size)).size ≤ 10 := chF_size 9 _
  go_enter Try.func56, Try.ntmps56
  go_wp2_with (go_at_call 61; refine (rchain_any 9 _ _ (by omega) (by omega) (by omega) (by omega)).mono ?_; rintro e w' ⟨rfl, hb⟩)
  go_ret
  exact ⟨ret_str (text_eq s), hb⟩

theorem clone_any (s : ByteArray) (w : World) (hs : s.size ≤ 281474976710656) :
    Calls Try.prog 52 #[.string s] w fun e w' => e = .returned (.string s) ∧ Below w.heap.size w w' := by
  go_enter Try.func52, Try.ntmps52
  go_wp2_with (go_at_call 59; refine (Try.stringslite_Clone _ _ hs).mono ?_; rintro e w' ⟨rfl, hb⟩)
  go_ret
  exact ⟨rfl, hb⟩

theorem ret_three_s {a1 b1 : ByteArray} {a2 a3 b2 b3 : Int} (h : (a1, a2, a3) = (b1, b2, b3)) :
    Ending.returned (.tuple #[.string a1, .int .i64 a2, .int .i64 a3]) = .returned (.tuple #[.string b1, .int .i64 b2, .int .i64 b3]) := by
  simp only [Prod.mk.injEq] at h
  rw [h.1, h.2.1, h.2.2]
theorem ret_agg_s {a1 b1 : ByteArray} {a2 a3 b2 b3 : Int} (h : (a1, a2, a3) = (b1, b2, b3)) :
    Ending.returned (.agg #[.string a1, .int .i64 a2, .int .i64 a3]) = .returned (.agg #[.string b1, .int .i64 b2, .int .i64 b3]) := by
  simp only [Prod.mk.injEq] at h
  rw [h.1, h.2.1, h.2.2]

end Go.Proofs.Ytahljbjgenepaaa.W

/- The law's Act.text. -/
import Derived.Test.YtkmlmondhmpkkaaProg
import Derived.Test.YtkmlmondhmpkkaaTorn
import Derived.Deep.RegionHeld3
namespace Go.Proofs.Ytkmlmondhmpkkaa.D
open Go.RowKit
set_option linter.unusedVariables false

theorem step_max {P : Program} {ops : Array Oper} {o : Oper} {a : Act} {w : World} {K : Act → World → Prop} {Q : Exit → Act → World → Prop} {E : Prop} (hgd : o.guard = none) (x y : Operand) (t u : TypeId)
    (ho : o.op = .call { callee := .builtin .max, args := #[x, y], argTypes := #[t, u] }) (p q : Int) (hx : a.eval x = .int .i64 p) (hy : a.eval y = .int .i64 q) (h : K (a.put o.dst (.int .i64 (max p q))) w) :
    if Region.wanted o (yielded ops a.tmps) = true then Oper.wp P o a w K Q else E := by
  have hw : Region.wanted o (yielded ops a.tmps) = true := by simp [Region.wanted, hgd]
  rw [if_pos hw]
  have hrun := run_max_int2 (P := P) (w := w) #[t, u] o.type .i64 .i64 p q
  rw [show (if q > p then q else p) = max p q by split <;> omega] at hrun
  unfold Oper.wp
  simp [execOp, ho, resolve, invoke, builtin, hx, hy, hrun, Result.andThen]
  exact h
theorem step_min {P : Program} {ops : Array Oper} {o : Oper} {a : Act} {w : World} {K : Act → World → Prop} {Q : Exit → Act → World → Prop} {E : Prop} (hgd : o.guard = none) (x y : Operand) (t u : TypeId)
    (ho : o.op = .call { callee := .builtin .min, args := #[x, y], argTypes := #[t, u] }) (p q r : Int) (hx : a.eval x = .int .i64 p) (hy : a.eval y = .int .i64 q) (hr : min p q = r) (h : K (a.put o.dst (.int .i64 r)) w) :
    if Region.wanted o (yielded ops a.tmps) = true then Oper.wp P o a w K Q else E := by
  have hw : Region.wanted o (yielded ops a.tmps) = true := by simp [Region.wanted, hgd]
  rw [if_pos hw]
  have hrun := run_min_int2 (P := P) (w := w) #[t, u] o.type .i64 .i64 p q
  rw [show (if q < p then q else p) = r by split <;> omega] at hrun
  unfold Oper.wp
  simp [execOp, ho, resolve, invoke, builtin, hx, hy, hrun, Result.andThen]
  exact h
theorem below_of_drew {B : Nat} {W w2 : World} (h : Below B W.drew w2) : Below B W w2 := ⟨h.os, h.tape, h.output, h.size, h.block⟩
/-- An act, as a value. -/
abbrev actV (k at_ n : Int) (c : UInt8) (kv : Value) : Value := .agg #[.int .i64 k, .int .i64 at_, .int .i64 n, .int .u8 (c.toNat : Int), kv]
/-- What is written. -/
def Texted (n : Int) (c : UInt8) (T : ByteArray) : Prop := T.size = 64 - cut n ∧ (cut n = 0 → T = ⟨(fillL c).toArray⟩)
theorem texted {n : Int} {c : UInt8} {X : ByteArray} (hX : ⟨(fillL c).toArray⟩ = X) : Texted n c (X.extract 0 (64 - cut n)) := by
  have hs : X.size = 64 := by rw [← hX]; simp [fillL, ByteArray.size]
  refine ⟨by rw [ByteArray.size_extract, hs]; omega, fun h => ?_⟩
  rw [h, hX]
  have : X.extract 0 X.size = X := ByteArray.extract_zero_size
  rw [hs] at this
  exact this

end Go.Proofs.Ytkmlmondhmpkkaa.D

/- The law's Act.text. -/
import Derived.Test.YtgomhnclmacleaaProg
import Derived.Test.YtgomhnclmacleaaTorn
import Derived.Deep.RegionHeld3
namespace Go.Proofs.Ytgomhnclmacleaa.D
open Go.RowKit
set_option linter.unusedVariables false

theorem step_max {P : Program} {ops : Array Oper} {o : Oper} {a : Act} {w : World} {K : Act → World → Prop} {Q : Exit → Act → World → Prop} {E : Prop} (hgd : o.guard = none) (x y : Operand) (t u : TypeId)
    (ho : o.op = .call { callee := .builtin .max, args := #[x, y], argTypes := #[t, u] }) (p q : Int) (hx : a.eval x = .int .i64 p) (hy : a.eval y = .int .i64 q) (h : K (a.put o.dst (.int .i64 (max p q))) w) :
    if Region.wanted o (yielded ops a.tmps) = true then Oper.wp P o a w K Q else E := by
  have hw : Region.wanted o (yielded ops a.tmps) = true := by simp [Region.wanted, hgd]
  rw [if_pos hw]
  have hrun := run_max_int2 (P := P) (w := w) #[t, u] o.type .i64 .i64 p q
  rw [show (if q > p then q else p) = max p q by split <;> omega] at hrun
  unfold Oper.wp
  simp [execOp, ho, resolve, invoke, builtin, hx, hy, hrun, Result.andThen]
  exact h
theorem step_min {P : Program} {ops : Array Oper} {o : Oper} {a : Act} {w : World} {K : Act → World → Prop} {Q : Exit → Act → World → Prop} {E : Prop} (hgd : o.guard = none) (x y : Operand) (t u : TypeId)
    (ho : o.op = .call { callee := .builtin .min, args := #[x, y], argTypes := #[t, u] }) (p q r : Int) (hx : a.eval x = .int .i64 p) (hy : a.eval y = .int .i64 q) (hr : min p q = r) (h : K (a.put o.dst (.int .i64 r)) w) :
    if Region.wanted o (yielded ops a.tmps) = true then Oper.wp P o a w K Q else E := by
  have hw : Region.wanted o (yielded ops a.tmps) = true := by simp [Region.wanted, hgd]
  rw [if_pos hw]
  have hrun := run_min_int2 (P := P) (w := w) #[t, u] o.type .i64 .i64 p q
  rw [show (if q < p then q else p) = r by split <;> omega] at hrun
  unfold Oper.wp
  simp [execOp, ho, resolve, invoke, builtin, hx, hy, hrun, Result.andThen]
  exact h
theorem below_of_drew {B : Nat} {W w2 : World} (h : Below B W.drew w2) : Below B W w2 := ⟨h.os, h.tape, h.output, h.size, h.block⟩
/-- An act, as a value. -/
abbrev actV (k at_ n : Int) (c : UInt8) (kv : Value) : Value := .agg #[.int .i64 k, .int .i64 at_, .int .i64 n, .int .u8 (c.toNat : Int), kv]
/-- What is written. -/
def Texted (n : Int) (c : UInt8) (T : ByteArray) : Prop := T.size = 64 - cut n ∧ (cut n = 0 → T = ⟨(fillL c).toArray⟩)
theorem texted {n : Int} {c : UInt8} {X : ByteArray} (hX : ⟨(fillL c).toArray⟩ = X) : Texted n c (X.extract 0 (64 - cut n)) := by
  have hs : X.size = 64 := by rw [← hX]; simp [fillL, ByteArray.size]
  refine ⟨by rw [ByteArray.size_extract, hs]; omega, fun h => ?_⟩
  rw [h, hX]
  have : X.extract 0 X.size = X := ByteArray.extract_zero_size
  rw [hs] at this
  exact this

set_option maxRecDepth 100000 in
theorem text_any (k at_ n : Int) (c : UInt8) (kv : Value) (w : World) :
    Calls Try.prog 55 #[actV k at_ n c kv] w fun e w' => ∃ T, e = .returned (.string T) ∧ Texted n c T ∧ Below w.heap.size w w' := by
  obtain ⟨X, hX⟩ : ∃ X : ByteArray, Hid (⟨(fillL c).toArray⟩ = X) := ⟨_, Lib.hid rfl⟩
  have hXs : X.size = 64 := by rw [← hX.out]; simp [fillL, ByteArray.size]
  obtain ⟨m, hm⟩ : ∃ m, Hid (cut n = m) := ⟨_, Lib.hid rfl⟩
  have hcv : Hid (min (max n 0) 64 = (m : Int)) := by rw [← hm.out]; unfold cut; exact Lib.hid (by omega)
  have hm64 : m ≤ 64 := by rw [← hm.out]; exact cut_le n
  have ht := Lib.hid (texted (n := n) hX.out)
  rw [hm.out] at ht
  have s1 : IntKind.i64.wrap (64 - (m : Int)) = 64 - (m : Int) := IntWalk.i64_in _ (by omega)
  have s2 : (0 : Int) ≤ 64 - (m : Int) := by omega
  have s3 : (64 - (m : Int)).toNat = 64 - m := by omega
  have s4 : 64 - (m : Int) ≤ 64 := by omega
  have s5 : (m : Int) ≤ 64 := by omega
  obtain ⟨W, hW⟩ : ∃ W, Hid (W = w.alloc (.cells #[.int .i64 k, .int .i64 at_, .int .i64 n, .int .u8 (c.toNat : Int), kv] 36)) := ⟨_, Lib.hid rfl⟩
  have hbW : Below w.heap.size w W := by rw [hW.out]; exact allocBelow w _
  have c2 : W.cell? ⟨w.heap.size, 2, none⟩ = some (.int .i64 n) := by rw [hW.out]; exact (Whole.new w 36 [.int .i64 k, .int .i64 at_, .int .i64 n, .int .u8 (c.toNat : Int), kv]).cell 2
  have c3 : W.cell? ⟨w.heap.size, 3, none⟩ = some (.int .u8 (c.toNat : Int)) := by rw [hW.out]; exact (Whole.new w 36 [.int .i64 k, .int .i64 at_, .int .i64 n, .int .u8 (c.toNat : Int), kv]).cell 3
  go_enter Try.func55, Try.ntmps55
  go_wp2_with fail
  rw [← hW.out]
  clear hW
  go_region_held3 (fun w' => w'.cell? ⟨w.heap.size, 2, none⟩ = some (.int .i64 n) ∧ w'.cell? ⟨w.heap.size, 3, none⟩ = some (.int .u8 (c.toNat : Int))) (go_keep) (first
    | (go_at_call 52; (with_reducible refine (fill_any c _).mono ?_); rintro e w2 ⟨rfl, hb2⟩; rw [hX.out]; have c22 := keepCell hb2 c2; have c32 := keepCell hb2 c3)
    | (refine step_max (by rfl) _ _ _ _ (by rfl) n 0 (by rfl) (by rfl) ?_)
    | (refine step_min (by rfl) _ _ _ _ (by rfl) (max n 0) 64 (m : Int) (by rfl) (by rfl) hcv.out ?_))
  all_goals
    go_wp2_with fail
    go_ret
    exact ⟨_, rfl, ht.out, hbW.trans ((below_of_drew hb2).mono hbW.size)⟩
end Go.Proofs.Ytgomhnclmacleaa.D

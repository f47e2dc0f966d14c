/- The disk's Flush. The disk's Crash. -/
import Derived.Test.YtoegohofmhijgaaDoorProg
import Derived.Test.YtoegohofmhijgaaDoorTake
import Derived.Deep.RegionHeld3
import Derived.Deep.RegionLaw
import Derived.Laws.IdiomCopy
section
namespace Go.Proofs.YtoegohofmhijgaaDoor.D
open Go.RowKit
set_option linter.unusedVariables false

theorem Kept.cell {own : Nat → Prop} {a b : World} (h : Kept own a b) {k : Nat} (hk : k < a.heap.size) (ho : ¬ own k) (i : Nat) : b.cell? ⟨k, i, none⟩ = a.cell? ⟨k, i, none⟩ := by
  simp [World.cell?, h.block k hk ho]
theorem Kept.range {own : Nat → Prop} {a b : World} (h : Kept own a b) {k o : Nat} {cs : List Value} (hk : k < a.heap.size) (ho : ¬ own k) (hr : a.rangeAt k o cs) : b.rangeAt k o cs := fun j u hu => by
  rw [h.cell hk ho]; exact hr j u hu
theorem cell_far {w : World} {b k o i : Nat} {vs : List Value} (hk : k ≠ b) : (w.setCells b o vs).cell? ⟨k, i, none⟩ = w.cell? ⟨k, i, none⟩ := by
  simp [World.cell?, heap_setCells_far b hk]
/-- Some writes are done. -/
def laid (lie : List (List UInt8)) (l : List (Nat × List UInt8)) : List (List UInt8) := l.foldl (fun acc p => acc.set p.1 p.2) lie
theorem laid_len (l : List (Nat × List UInt8)) : ∀ lie, (laid lie l).length = lie.length := by
  induction l with
  | nil => intro lie; rfl
  | cons p l ih => intro lie; show (laid (lie.set p.1 p.2) l).length = _; rw [ih]; simp
theorem laid_snoc (lie : List (List UInt8)) (l : List (Nat × List UInt8)) (p : Nat × List UInt8) : laid lie (l ++ [p]) = (laid lie l).set p.1 p.2 := by simp [laid, List.foldl_append]
section
variable (d g : Nat) (v : Value) (lie : List (List UInt8)) (ws : List (Nat × List UInt8)) (w : World)
end
end Go.Proofs.YtoegohofmhijgaaDoor.D
end
section
namespace Go.Proofs.YtoegohofmhijgaaDoor.D
open Go.RowKit
set_option linter.unusedVariables false

theorem step_copy_cells {P : Program} {ops : Array Oper} {o : Oper} {a : Act} {w : World} {K : Act → World → Prop} {Q : Exit → Act → World → Prop} {E : Prop} (hgd : o.guard = none) (d s : Operand) (dT sT : TypeId)
    (ho : o.op = .call { callee := .builtin .copy, args := #[d, s], argTypes := #[dT, sT] }) (elem : TypeId) (hu : P.underlying dT = some (.slice elem)) (hsz : (P.info? elem).map (·.size) = some 1)
    (g off dLen dCap : Nat) (ad : Addr) (sLen sCap : Nat) (hd : a.eval d = .slice (some ⟨g, off, none⟩) dLen dCap) (hs : a.eval s = .slice (some ad) sLen sCap)
    (cs : List Value) (hn : cs.length = Nat.min sLen dLen) (hsrc : ∀ j v, cs[j]? = some v → w.cell? (ad.add j) = some v) (hth : w.there g off cs.length) (h1 : ∀ v ∈ cs, v.oneCell' = true)
    (h : K (a.put o.dst (goInt cs.length)) (w.setCells g off cs)) :
    if Region.wanted o (yielded ops a.tmps) = true then Oper.wp P o a w K Q else E := by
  have hw : Region.wanted o (yielded ops a.tmps) = true := by simp [Region.wanted, hgd]
  rw [if_pos hw]
  have hrun := run_copy_cells (P := P) w dT sT o.type elem g off dLen dCap ad sLen sCap cs hu hsz hn hsrc (fun j hj => (hth j hj).1) (fun j hj => (hth j hj).2) h1
  unfold Oper.wp
  simp [execOp, ho, resolve, invoke, builtin, hd, hs, hrun, Result.andThen]
  exact h
theorem stopMax {P : Program} {w : World} {ops : Array Oper} {rest : List Oper} {o : Oper} {a : Act} {Q : Exit → Act → World → Prop} (x y : Operand) (t u : TypeId)
    (ho : o.op = .call { callee := .builtin .max, args := #[x, y], argTypes := #[t, u] }) (h : Hid (wpList P ops Q (o :: rest) a w)) : wpList P ops Q (o :: rest) a w := h
theorem wpList_max {P : Program} {w : World} {ops : Array Oper} {rest : List Oper} {o : Oper} {a : Act} {Q : Exit → Act → World → Prop} (hgd : o.guard = none) (x y : Operand) (t u : TypeId)
    (ho : o.op = .call { callee := .builtin .max, args := #[x, y], argTypes := #[t, u] }) (p q : Int) (hx : a.eval x = .int .i64 p) (hy : a.eval y = .int .i64 q) (h : wpList P ops Q rest (a.put o.dst (.int .i64 (max p q))) w) : wpList P ops Q (o :: rest) a w := by
  refine wpList_plain hgd fun K hK => ?_
  have hrun := run_max_int2 (P := P) (w := w) #[t, u] o.type .i64 .i64 p q
  rw [show (if q > p then q else p) = max p q by split <;> omega] at hrun
  unfold Oper.wp
  simp [execOp, ho, resolve, invoke, builtin, hx, hy, hrun, Result.andThen]
  exact hK _ _ h
theorem wpList_min {P : Program} {w : World} {ops : Array Oper} {rest : List Oper} {o : Oper} {a : Act} {Q : Exit → Act → World → Prop} (hgd : o.guard = none) (x y : Operand) (t u : TypeId)
    (ho : o.op = .call { callee := .builtin .min, args := #[x, y], argTypes := #[t, u] }) (p q : Int) (hx : a.eval x = .int .i64 p) (hy : a.eval y = .int .i64 q) (h : wpList P ops Q rest (a.put o.dst (.int .i64 (min p q))) w) : wpList P ops Q (o :: rest) a w := by
  refine wpList_plain hgd fun K hK => ?_
  have hrun := run_min_int2 (P := P) (w := w) #[t, u] o.type .i64 .i64 p q
  rw [show (if q < p then q else p) = min p q by split <;> omega] at hrun
  unfold Oper.wp
  simp [execOp, ho, resolve, invoke, builtin, hx, hy, hrun, Result.andThen]
  exact hK _ _ h
theorem sizeU8 : (Tryd.prog.info? 5).map (·.size) = some 1 := by kernel_rfl
/-- How many bytes of a write stay. -/
def cut (b : Int) : Nat := (min (max b 0) 64).toNat
theorem cut_le (b : Int) : cut b ≤ 64 := by unfold cut; omega
/-- One write that stays in part. -/
def kstep (tk : List (Nat × List UInt8)) (lie : List (List UInt8)) (q : Int × Int) : List (List UInt8) :=
  match (if q.1 < 0 then none else tk[q.1.toNat]?) with
  | none => lie
  | some p => lie.set p.1 (p.2.take (cut q.2) ++ ((lie[p.1]?).getD []).drop (cut q.2))
theorem kstep_len (tk : List (Nat × List UInt8)) (lie : List (List UInt8)) (q : Int × Int) : (kstep tk lie q).length = lie.length := by
  unfold kstep; split <;> simp
/-- What the power leaves. -/
def kepts (tk : List (Nat × List UInt8)) (lie : List (List UInt8)) (kl : List (Int × Int)) : List (List UInt8) := kl.foldl (kstep tk) lie
theorem kepts_len (tk : List (Nat × List UInt8)) (kl : List (Int × Int)) : ∀ lie, (kepts tk lie kl).length = lie.length := by
  induction kl with
  | nil => intro lie; rfl
  | cons q l ih => intro lie; show (kepts tk (kstep tk lie q) l).length = _; rw [ih, kstep_len]
theorem kepts_snoc (tk : List (Nat × List UInt8)) (lie : List (List UInt8)) (kl : List (Int × Int)) (q : Int × Int) : kepts tk lie (kl ++ [q]) = kstep tk (kepts tk lie kl) q := by simp [kepts, List.foldl_append]
theorem kstep_out (tk : List (Nat × List UInt8)) (lie : List (List UInt8)) (q : Int × Int) (h : q.1 < 0 ∨ tk.length ≤ q.1) : kstep tk lie q = lie := by
  unfold kstep
  by_cases h1 : q.1 < 0
  · rw [if_pos h1]
  · rw [if_neg h1, List.getElem?_eq_none (by omega)]
theorem kstep_in {tk : List (Nat × List UInt8)} {lie : List (List UInt8)} {i : Nat} {b : Int} {p : Nat × List UInt8} {old : List UInt8} (hp : tk[i]? = some p) (ho : lie[p.1]? = some old) : kstep tk lie ((i : Int), b) = lie.set p.1 (p.2.take (cut b) ++ old.drop (cut b)) := by
  unfold kstep
  simp only [show ¬ ((i : Int) < 0) by omega, if_false, Int.toNat_natCast, hp, ho, Option.getD_some]
/-- A row of keeps. -/
structure Keeps (w : World) (kv : Value) (kl : List (Int × Int)) : Prop where
  form : ∃ ka cap, kv = .slice ka kl.length cap ∧ kl.length ≤ cap ∧ cap ≤ maxLen ∧ ∀ j q, kl[j]? = some q → ∃ b o, ka = some ⟨b, o, none⟩ ∧ b < w.heap.size ∧ w.cell? ⟨b, o + j * 2, none⟩ = some (.int .i64 q.1) ∧ w.cell? ⟨b, o + j * 2 + 1, none⟩ = some (.int .i64 q.2)

section
variable (d g : Nat) (v : Value) (lie : List (List UInt8)) (ws : List (Nat × List UInt8)) (w : World)
end
end Go.Proofs.YtoegohofmhijgaaDoor.D
end

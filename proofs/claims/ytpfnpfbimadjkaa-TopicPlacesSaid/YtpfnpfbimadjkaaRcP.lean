/- The definition's records: Wrong, Pack. -/
import Derived.Test.YtpfnpfbimadjkaaRcL
import Derived.Test.YtpfnpfbimadjkaaRcG
namespace Go.Proofs.Ytpfnpfbimadjkaa.W
open Go.RowKit Go.Sort
open Go.Proofs.Ytpfnpfbimadjkaa.M Go.Proofs.Ytpfnpfbimadjkaa.D Go.Proofs.Ytpfnpfbimadjkaa.Z
set_option linter.unusedVariables false
set_option linter.unusedSimpArgs false

/-- A comparison within a region that is walked in the order of the text, its answer known. -/
theorem quiet_bin {P : Program} {ops : Array Oper} {C : World → Prop} {Q : Go.Act → Prop} {a : Go.Act} {rest : List Oper} {d : Option Tmp} {x y : Operand} {ty : TypeId} {ps : String} {af : Array Edge} {gd : Option (Nat × Bool)} (o : BinOp) (t u : TypeId) (vx vy v : Value)
    (hx : a.eval x = vx) (hy : a.eval y = vy) (h0 : ∀ w, (binOp o t vx vy).run P w = .ok v w) (hq : ∀ w, (eqGuard o t x y vx vy).run P w = .ok () w)
    (hw : Region.wanted { dst := d, op := .binOp o t x y u, type := ty, pos := ps, after := af, guard := gd } (yielded ops a.tmps) = true)
    (h : wpQuiet P ops C Q rest (a.put d v)) : wpQuiet P ops C Q ({ dst := d, op := .binOp o t x y u, type := ty, pos := ps, after := af, guard := gd } :: rest) a := by
  refine quiet_by v hw (fun w _ => ?_) h
  have e := h0 w
  have e2 := hq w
  unfold execOp
  simp [hx, hy, Sem.run_bind, Sem.run_pure, Result.andThen_ok, e, e2]
theorem first_not (P : Nat → Prop) : ∀ n : Nat, (∃ i, i < n ∧ ¬ P i) → ∃ k, k < n ∧ ¬ P k ∧ ∀ i, i < k → P i := by
  intro n
  induction n with
  | zero => rintro ⟨i, hi, _⟩; omega
  | succ n ih =>
    intro h
    by_cases hn : ∃ i, i < n ∧ ¬ P i
    · obtain ⟨k, h1, h2⟩ := ih hn
      exact ⟨k, by omega, h2⟩
    · obtain ⟨i, h1, h2⟩ := h
      have hlow : ∀ j, j < n → P j := fun j hj => Classical.byContradiction fun e => hn ⟨j, hj, e⟩
      obtain rfl : i = n := Classical.byContradiction fun e => h2 (hlow i (by omega))
      exact ⟨i, h1, h2, hlow⟩
/-- Is a record at its place as it should be? -/
def fineAt (rs : List Rc) (i : Nat) : Prop := ∀ r, rs[i]? = some r → r.ok ∧ (0 < i → ∀ p, rs[i - 1]? = some p → p.off < r.off)
theorem fair_fine {rs : List Rc} (h0 : rs ≠ []) : fair rs ↔ ∀ i, i < rs.length → fineAt rs i := by
  constructor
  · rintro ⟨_, h1, h2⟩ i hi r hr
    exact ⟨h1 r (List.mem_of_getElem? hr), fun hp p hpp => h2 (i - 1) p r hpp (by rw [Nat.sub_add_cancel hp]; exact hr)⟩
  · intro h
    refine ⟨h0, fun r hr => ?_, fun i a b ha hb => ?_⟩
    · obtain ⟨i, hi⟩ := List.getElem?_of_mem hr
      exact (h i (List.getElem?_eq_some_iff.1 hi).1 r hi).1
    · exact (h (i + 1) (List.getElem?_eq_some_iff.1 hb).1 b hb).2 (by omega) a (by simpa using ha)

end Go.Proofs.Ytpfnpfbimadjkaa.W

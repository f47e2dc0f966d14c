/- Package record's check, Pack. The definition's records: Wrong, Pack. The definition's records: Same, Pack. -/
import Derived.Test.YtgogackkeodciaaRcF
import Derived.Test.YtgogackkeodciaaStops
import Derived.Deep.AppendLies
import Derived.Test.YtgogackkeodciaaRcL
section
namespace Go.Proofs.Ytgogackkeodciaa.W
open Go.RowKit Go.Sort
open Go.Proofs.Ytgogackkeodciaa.M Go.Proofs.Ytgogackkeodciaa.D Go.Proofs.Ytgogackkeodciaa.Z
set_option linter.unusedVariables false
set_option linter.unusedSimpArgs false

end Go.Proofs.Ytgogackkeodciaa.W
end
section
namespace Go.Proofs.Ytgogackkeodciaa.W
open Go.RowKit Go.Sort
open Go.Proofs.Ytgogackkeodciaa.M Go.Proofs.Ytgogackkeodciaa.D Go.Proofs.Ytgogackkeodciaa.Z
set_option linter.unusedVariables false
set_option linter.unusedSimpArgs false

/-- A comparison within a region that is walked in the order of the text, its answer known. -/
theorem quiet_bin {P : Program} {ops : Array Oper} {C : World → Prop} {Q : Go.Act → Prop} {a : Go.Act} {rest : List Oper} {d : Option Tmp} {x y : Operand} {ty : TypeId} {ps : String} {af : Array Edge} {gd : Option (Nat × Bool)} (o : BinOp) (t u : TypeId) (vx vy v : Value)
    (hx : a.eval x = vx) (hy : a.eval y = vy) (h0 : ∀ w, (binOp o t vx vy).run P w = .ok v w) (hq : ∀ w, (eqGuard o t x y vx vy).run P w = .ok () w)
    (hw : Region.wanted { dst := d, op := .binOp o t x y u, type := ty, pos := ps, after := af, guard := gd } (yielded ops a.tmps) = true)
    (h : wpQuiet P ops C Q rest (a.put d v)) : wpQuiet P ops C Q ({ dst := d, op := .binOp o t x y u, type := ty, pos := ps, after := af, guard := gd } :: rest) a := by
  refine quiet_by v hw (fun w _ => ?_) h
  have e := h0 w
  have e2 := hq w
  unfold execOp
  simp [hx, hy, Sem.run_bind, Sem.run_pure, Result.andThen_ok, e, e2]
theorem first_not (P : Nat → Prop) : ∀ n : Nat, (∃ i, i < n ∧ ¬ P i) → ∃ k, k < n ∧ ¬ P k ∧ ∀ i, i < k → P i := by
  intro n
  induction n with
  | zero => rintro ⟨i, hi, _⟩; omega
  | succ n ih =>
    intro h
    by_cases hn : ∃ i, i < n ∧ ¬ P i
    · obtain ⟨k, h1, h2⟩ := ih hn
      exact ⟨k, by omega, h2⟩
    · obtain ⟨i, h1, h2⟩ := h
      have hlow : ∀ j, j < n → P j := fun j hj => Classical.byContradiction fun e => hn ⟨j, hj, e⟩
      obtain rfl : i = n := Classical.byContradiction fun e => h2 (hlow i (by omega))
      exact ⟨i, h1, h2, hlow⟩
/-- Is a record at its place as it should be? -/
def fineAt (rs : List Rc) (i : Nat) : Prop := ∀ r, rs[i]? = some r → r.ok ∧ (0 < i → ∀ p, rs[i - 1]? = some p → p.off < r.off)
theorem fair_fine {rs : List Rc} (h0 : rs ≠ []) : fair rs ↔ ∀ i, i < rs.length → fineAt rs i := by
  constructor
  · rintro ⟨_, h1, h2⟩ i hi r hr
    exact ⟨h1 r (List.mem_of_getElem? hr), fun hp p hpp => h2 (i - 1) p r hpp (by rw [Nat.sub_add_cancel hp]; exact hr)⟩
  · intro h
    refine ⟨h0, fun r hr => ?_, fun i a b ha hb => ?_⟩
    · obtain ⟨i, hi⟩ := List.getElem?_of_mem hr
      exact (h i (List.getElem?_eq_some_iff.1 hi).1 r hi).1
    · exact (h (i + 1) (List.getElem?_eq_some_iff.1 hb).1 b hb).2 (by omega) a (by simpa using ha)

end Go.Proofs.Ytgogackkeodciaa.W
end
section
namespace Go.Proofs.Ytgogackkeodciaa.W
open Go.RowKit Go.Sort
open Go.Proofs.Ytgogackkeodciaa.M Go.Proofs.Ytgogackkeodciaa.D Go.Proofs.Ytgogackkeodciaa.Z
set_option linter.unusedVariables false
set_option linter.unusedSimpArgs false

/-- What a record's cells may be, as data that came in. -/
def wfR (r : Rc) : Prop := (Lit.int .i64 r.off).wf = true ∧ (Lit.int .i64 r.tick).wf = true ∧ r.key.size ≤ maxLen ∧ r.val.size ≤ maxLen ∧ (Lit.int .i64 r.prod).wf = true ∧ (Lit.int .i64 r.seq).wf = true ∧ (Lit.int .i64 r.frm).wf = true
theorem wf_of {n : Int} (h0 : 0 ≤ n) (h1 : n ≤ 1099511627776) : (Lit.int .i64 n).wf = true := by
  simp [Lit.wf, IntKind.min, IntKind.max, IntKind.signed, IntKind.bits]; omega
theorem ok_wf {r : Rc} (h : r.ok) : wfR r := by
  obtain ⟨⟨o0, o1⟩, ⟨t0, t1⟩, ⟨p0, p1⟩, ⟨q0, q1⟩, ⟨f0, f1⟩, _, hk, hv, _⟩ := h
  exact ⟨wf_of o0 (by omega), wf_of t0 t1, by unfold maxLen; omega, by unfold maxLen; omega, wf_of p0 p1, wf_of q0 q1, wf_of f0 f1⟩
theorem cellsRi : Try.prog.cellsOf 3 = 1 := by kernel_rfl
theorem cellsRs : Try.prog.cellsOf 9 = 1 := by kernel_rfl
theorem cellsRb : Try.prog.cellsOf 4 = 1 := by kernel_rfl
theorem litRi (a : Int) (h : (Lit.int .i64 a).wf = true) (d : Nat) : Try.prog.keyLits (d + 1) 3 [.int .i64 a] = some [.int .i64 a] := by
  unfold Program.keyLits
  rw [Try.underlying3]
  simp [h]
theorem litRs (s : ByteArray) (h : s.size ≤ maxLen) (d : Nat) : Try.prog.keyLits (d + 1) 9 [.string s] = some [.string s.data.toList] := by
  unfold Program.keyLits
  rw [Try.underlying9]
  simp [h]
theorem litRb (b : Bool) (d : Nat) : Try.prog.keyLits (d + 1) 4 [.bool b] = some [.bool b] := by
  unfold Program.keyLits
  rw [Try.underlying4]
end Go.Proofs.Ytgogackkeodciaa.W
end

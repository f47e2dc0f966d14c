/- A sealed sector that is loaded as a whole. -/
import Derived.Test.YtkmlmondhmpkkaaProg
import Derived.Test.YtkmlmondhmpkkaaOpenSealed
import Derived.Test.YtkmlmondhmpkkaaWrite
import Derived.Test.YtkmlmondhmpkkaaQuietB
namespace Go.Proofs.Ytkmlmondhmpkkaa.W
open Go.RowKit
open Go.Proofs.Ytkmlmondhmpkkaa.M
open Go.Proofs.Ytkmlmondhmpkkaa.D
open Go.Proofs.Ytkmlmondhmpkkaa.Z
set_option linter.unusedVariables false

theorem sizeSealed : (Try.prog.info? 25).map (·.size) = some 54 := by kernel_rfl
theorem load_sealed (e : Operand → Value) (d : Option Tmp) (x : Operand) (ty : TypeId) (ps : String) (af : Array Edge) (gd : Option (Nat × Bool)) (w : World) (h : hasAt w (e x) 54) :
    (execOp e { dst := d, op := .load 25 x, type := ty, pos := ps, after := af, guard := gd }).run Try.prog w = .ok (.value (.agg (readAt w (e x) 54).toArray)) w := by
  obtain ⟨b, o, hx, hc⟩ := h
  have hr : w.rangeAt b o (readAt w (e x) 54) := fun j v hv => by
    rw [hx] at hv
    have hj : j < 54 := by have := (List.getElem?_eq_some_iff.1 hv).1; simpa [readAt] using this
    obtain ⟨u, hu⟩ := Option.isSome_iff_exists.1 (hc j hj)
    have e1 : (readAt w (.pointer (some ⟨b, o, none⟩)) 54)[j]? = some u := by
      show ((List.range 54).map fun j => (w.cell? ⟨b, o + j, none⟩).getD undef)[j]? = _
      rw [List.getElem?_map, List.getElem?_range hj]; simp [hu]
    rw [e1] at hv
    cases hv; exact hu
  have hl : (readAt w (e x) 54).length = 54 := by rw [hx]; simp [readAt]
  have := run_loadVar_mid (P := Try.prog) w b o 25 _ _ hr Try.underlying25 rfl (by rw [hl]; exact sizeSealed)
  unfold execOp
  simp only [hx] at this ⊢
  simp only [Instr.loadAt, Instr.sureAddr, Sem.run_bind, Sem.run_pure, Result.andThen_ok, this]
/-- The same within a region that is walked in the order of the text. -/
theorem quiet_sealed {ops : Array Oper} {C : World → Prop} {Q : Go.Act → Prop} {a : Go.Act} {rest : List Oper} {d : Option Tmp} {x : Operand} {ty : TypeId} {ps : String} {af : Array Edge} {gd : Option (Nat × Bool)} (b : Nat) (X : List Value)
    (hx : a.eval x = .pointer (some ⟨b, 0, none⟩)) (hC : ∀ w, C w → w.rangeAt b 0 X) (hl : X.length = 54)
    (hw : Region.wanted { dst := d, op := .load 25 x, type := ty, pos := ps, after := af, guard := gd } (yielded ops a.tmps) = true)
    (h : wpQuiet Try.prog ops C Q rest (a.put d (.agg X.toArray))) : wpQuiet Try.prog ops C Q ({ dst := d, op := .load 25 x, type := ty, pos := ps, after := af, guard := gd } :: rest) a := by
  refine quiet_by _ hw (fun w hw => ?_) h
  have e := load_sealed a.eval d x ty ps af gd w (by rw [hx]; exact has_of (hC w hw) hl)
  rw [hx, read_of (hC w hw) hl] at e
  exact e
end Go.Proofs.Ytkmlmondhmpkkaa.W

/- Regions that draw their order, whose callees make memory, walked once in the order of the text: what is known of their worlds; nothing of the program. -/
import Derived.WalkKit
import Derived.BigQuiet
import Derived.Lib.QuietBelow
import Derived.Deep.MidRow
import Derived.Test.YtnekiiahgidkoaaFlat
import Derived.Test.YtnekiiahgidkoaaOpen
import Derived.Lib.Hide
namespace Go.Proofs.Ytnekiiahgidkoaa.Z
open Go.RowKit Go.Sort
open Go.Proofs.Ytnekiiahgidkoaa.D
open Go.Proofs.Ytnekiiahgidkoaa.M
set_option linter.unusedVariables false

theorem keepZ {w w' : World} (h : Below w.heap.size w w') {a : Addr} {v : Value} (hc : w.cell? a = some v) : w'.cell? a = some v := by
  rw [h.cell (cell_lt hc)]; exact hc
theorem keepRangeZ {w w' : World} (h : Below w.heap.size w w') {b o : Nat} {cs : List Value} (hc : w.rangeAt b o cs) : w'.rangeAt b o cs := fun j v hv => keepZ h (hc j v hv)
/-- A callee's contract that holds in each world, met in a world of the class. -/
theorem regrown_any {P : Program} {f : FuncId} {args : Array Value} {v : Value} (h : ∀ W, Calls P f args W fun e w' => e = .returned v ∧ Below W.heap.size W w') (w : World) (d : Nat) (os : Array Obj) :
    Calls P f args (grow (redrawn w d) os) fun e w'' => e = .returned v ∧ ∃ p : Regrown, w'' = grow (redrawn w p.d) p.os := Calls.regrown_of (h _)
theorem regrown_same {P : Program} {f : FuncId} {args : Array Value} {v : Value} (h : ∀ W, Calls P f args W fun e w' => e = .returned v ∧ W = w') (w : World) (d : Nat) (os : Array Obj) :
    Calls P f args (grow (redrawn w d) os) fun e w'' => e = .returned v ∧ ∃ p : Regrown, w'' = grow (redrawn w p.d) p.os := Calls.regrown_of ((h _).mono fun e w' ⟨h1, h2⟩ => ⟨h1, h2 ▸ Below.refl _ _⟩)
/-- .. that holds in each world of which something is known that stays when memory is made. -/
theorem regrown_if {P : Program} {f : FuncId} {args : Array Value} {v : Value} {C : World → Prop} (h : ∀ W, C W → Calls P f args W fun e w' => e = .returned v ∧ Below W.heap.size W w') (w : World) (hC : ∀ w', Below w.heap.size w w' → C w') (d : Nat) (os : Array Obj) :
    Calls P f args (grow (redrawn w d) os) fun e w'' => e = .returned v ∧ ∃ p : Regrown, w'' = grow (redrawn w p.d) p.os := Calls.regrown_of (h _ (hC _ (below_regrown w d os)))
/-- An operation that yields a value in each world of the class, by hand. -/
theorem quiet_by {P : Program} {ops : Array Oper} {C : World → Prop} {Q : Go.Act → Prop} {a : Go.Act} {o : Oper} {rest : List Oper} (v : Value) (hw : Region.wanted o (yielded ops a.tmps) = true)
    (hv : ∀ w, C w → (execOp a.eval o).run P w = .ok (.value v) w) (h : wpQuiet P ops C Q rest (a.put o.dst v)) : wpQuiet P ops C Q (o :: rest) a :=
  BigFrame.wpQuiet_want hw fun K hK => ⟨v, fun w hC => by unfold Oper.quietAt; rw [hv w hC]; exact ⟨rfl, rfl⟩, hK _ h⟩
/-- A load of many cells within a region that is walked in the order of the text. -/
theorem quiet_load {P : Program} {ops : Array Oper} {C : World → Prop} {Q : Go.Act → Prop} {a : Go.Act} {rest : List Oper} {d : Option Tmp} {x : Operand} {ty : TypeId} {ps : String} {af : Array Edge} {gd : Option (Nat × Bool)} (t : TypeId) (dsc : TypeDesc) (b : Nat) (cs : List Value)
    (hx : a.eval x = .pointer (some ⟨b, 0, none⟩)) (hC : ∀ w, C w → w.rangeAt b 0 cs) (hu : P.underlying t = some dsc) (hd : dsc.isRow = true) (hi : (P.info? t).map (·.size) = some cs.length)
    (hw : Region.wanted { dst := d, op := .load t x, type := ty, pos := ps, after := af, guard := gd } (yielded ops a.tmps) = true)
    (h : wpQuiet P ops C Q rest (a.put d (.agg cs.toArray))) : wpQuiet P ops C Q ({ dst := d, op := .load t x, type := ty, pos := ps, after := af, guard := gd } :: rest) a := by
  refine quiet_by _ hw (fun w hw => ?_) h
  have e := run_loadVar_mid (P := P) w b 0 t cs dsc (hC w hw) hu hd hi
  unfold execOp
  simp only [hx]
  simp only [Instr.loadAt, Instr.sureAddr, Sem.run_bind, Sem.run_pure, Result.andThen_ok, e]
end Go.Proofs.Ytnekiiahgidkoaa.Z

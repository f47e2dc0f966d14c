/- The disk: how many writes a span has. -/
import Derived.Test.YtkmlmondhmpkkaaProg
import Derived.Test.YtkmlmondhmpkkaaSpan
namespace Go.Proofs.Ytkmlmondhmpkkaa.D
open Go.RowKit
set_option linter.unusedVariables false

theorem stopLoad {P : Program} {w : World} {ops : Array Oper} {rest : List Oper} {o : Oper} {a : Act} {Q : Exit → Act → World → Prop} (t : TypeId) (x : Operand) (ho : o.op = .load t x) (h : Hid (wpList P ops Q (o :: rest) a w)) : wpList P ops Q (o :: rest) a w := h
theorem stopStore {P : Program} {w : World} {ops : Array Oper} {rest : List Oper} {o : Oper} {a : Act} {Q : Exit → Act → World → Prop} (t : TypeId) (x y : Operand) (ho : o.op = .store t x y) (h : Hid (wpList P ops Q (o :: rest) a w)) : wpList P ops Q (o :: rest) a w := h
theorem sizeWrite : (Try.prog.info? 124).map (·.size) = some 65 := by kernel_rfl
theorem sizeSector : (Try.prog.info? 122).map (·.size) = some 64 := by kernel_rfl
theorem wrow_len {p : Nat × List UInt8} (h : p.2.length = 64) : (wrow p).length = 65 := by simp [wrow, bytesV_len, h]
theorem wrow_one (p : Nat × List UInt8) : ∀ v ∈ wrow p, v.oneCell' = true := fun v hv => by
  rcases List.mem_cons.1 hv with rfl | h
  · rfl
  · exact bytesV_one _ v h
/-- A fresh variable that was stored into. -/
theorem fresh {w : World} {z : Array Value} {t : TypeId} {vs : List Value} (hz : z.size = vs.length) :
    Whole ((w.alloc (.cells z t)).setCells w.heap.size 0 vs) w.heap.size t vs ∧ Below w.heap.size w ((w.alloc (.cells z t)).setCells w.heap.size 0 vs) ∧ ((w.alloc (.cells z t)).setCells w.heap.size 0 vs).heap.size = w.heap.size + 1 := by
  have h0 : Whole (w.alloc (.cells z t)) w.heap.size t z.toList := by simpa using Whole.new w t z.toList
  have hl : z.toList.length = vs.length := by simpa using hz
  have h1 := h0.store 0 vs (by omega)
  have e : splice z.toList 0 vs = vs := by
    unfold splice
    rw [List.take_zero, List.nil_append, List.drop_eq_nil_of_le (by omega), List.append_nil]
  rw [e] at h1
  have k : Kept (fun _ => False) w ((w.alloc (.cells z t)).setCells w.heap.size 0 vs) := ((Kept.refl _ w).alloc _).setCells (.inr (Nat.le_refl _)) 0 vs
  exact ⟨h1, k.below (Nat.le_refl _) (fun _ h => h.elim), by rw [size_setCells]; simp⟩
theorem fresh_there {w : World} {z : Array Value} {t : TypeId} (n : Nat) (hz : z.size = n) : (w.alloc (.cells z t)).there w.heap.size 0 n := by
  have h0 : Whole (w.alloc (.cells z t)) w.heap.size t z.toList := by simpa using Whole.new w t z.toList
  exact h0.there 0 n (by simp [hz])

theorem grownOf {a w : World} (h : Below a.heap.size a w) (row : Option Nat) : a.grownBy w row := ⟨h.os, h.tape, h.output, h.size, fun i hi _ => h.block i hi⟩
theorem Dk.below {w w' : World} {d g : Nat} {v : Value} {lie : List (List UInt8)} {ws : List (Nat × List UInt8)} (h : Dk w d g v lie ws) (hb : Below w.heap.size w w') : Dk w' d g v lie ws :=
  ⟨h.obj.below hb h.obj.lt, h.lying.below hb h.lying.lt, h.wait.kept (grownOf hb none) (Classical.em _), h.lie64, h.ws64, h.some_, h.few, h.within⟩
theorem filter_snoc {p : Nat × List UInt8 → Bool} {ws : List (Nat × List UInt8)} {k : Nat} {q : Nat × List UInt8} (h : ws[k]? = some q) : (ws.take (k + 1)).filter p = (ws.take k).filter p ++ if p q then [q] else [] := by
  have hk : k < ws.length := (List.getElem?_eq_some_iff.1 h).1
  rw [List.take_succ_eq_append_getElem hk, (List.getElem?_eq_some_iff.1 h).2, List.filter_append]
  cases hp : p q <;> simp [hp]
theorem wpList_fresh {P : Program} {w : World} {ops : Array Oper} {rest : List Oper} {o : Oper} {a : Act} {Q : Exit → Act → World → Prop} (hgd : o.guard = none) (t : TypeId) (x y : Operand) (ho : o.op = .store t x y)
    (b : Nat) (hx : a.eval x = .pointer (some ⟨b, 0, none⟩)) (vs : List Value) (hy : a.eval y = .agg vs.toArray) (w0 : World) (z : Array Value) (hw : w = w0.alloc (.cells z t)) (hb : b = w0.heap.size) (hz : z.size = vs.length)
    (hi : (P.info? t).map (·.size) = some vs.length) (h1 : ∀ v ∈ vs, v.oneCell' = true)
    (h : ∀ w2, Whole w2 b t vs → Below w0.heap.size w0 w2 → w2.heap.size = w0.heap.size + 1 → wpList P ops Q rest (a.put o.dst undef) w2) : wpList P ops Q (o :: rest) a w := by
  subst hw
  subst hb
  obtain ⟨f1, f2, f3⟩ := fresh (w := w0) (t := t) hz
  refine wpList_store_mid hgd t x y ho w0.heap.size 0 vs.toArray hx hy (fresh_there _ (by simpa using hz)) (by simpa using hi) (all_oneCell_toArray h1) ?_
  exact h _ f1 f2 f3
section
variable (d g : Nat) (v : Value) (lie : List (List UInt8)) (ws : List (Nat × List UInt8)) (w : World)
/-- The rows of the waiting slice. -/
theorem Dk.rows {w : World} {d g k cap : Nat} {lie : List (List UInt8)} {ws : List (Nat × List UInt8)} (h : Dk w d g (.slice (some ⟨k, 0, none⟩) ws.length cap) lie ws) {m : Nat} {p : Nat × List UInt8} (hp : ws[m]? = some p) :
    w.rangeAt k (m * 65) (wrow p) ∧ p.2.length = 64 ∧ p.1 < lie.length := by
  have h64 := h.ws64 p (List.mem_of_getElem? hp)
  refine ⟨?_, h64, h.within p (List.mem_of_getElem? hp)⟩
  rcases h.form with ⟨h0, _⟩ | ⟨k', cap', cur, hv, hW, hle, hcap, hcur, htake⟩
  · cases h0
  cases hv
  intro j u hu
  have hj : j < 65 := by have := (List.getElem?_eq_some_iff.1 hu).1; rw [wrow_len h64] at this; exact this
  have e : (ws.map wrow).flatten[m * 65 + j]? = some u := by rw [flat_at h.evenW m j hj, List.getElem?_map, hp]; exact hu
  rw [← htake, List.getElem?_take] at e
  split at e
  · rw [hW.cell]; exact e
  · cases e

end
end Go.Proofs.Ytkmlmondhmpkkaa.D

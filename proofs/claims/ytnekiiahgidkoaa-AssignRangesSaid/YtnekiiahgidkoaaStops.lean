/- Stops of the walk at an operation; rows of the call's own; nothing of the program. -/
import Derived.Test.YtnekiiahgidkoaaFlat
import Derived.Lib.Hide
namespace Go.Proofs.Ytnekiiahgidkoaa.Z
open Go.RowKit
open Go.Proofs.Ytnekiiahgidkoaa.D
set_option linter.unusedVariables false

theorem zHere {p : Prop} (h : Hid p) : p := h
section
variable {P : Program} {w : World} {ops : Array Oper} {rest : List Oper} {o : Oper} {a : Act} {Q : Exit → Act → World → Prop}
theorem zLoad (t : TypeId) (x : Operand) (ho : o.op = .load t x) (h : Hid (wpList P ops Q (o :: rest) a w)) : wpList P ops Q (o :: rest) a w := h
theorem zStore (t : TypeId) (x y : Operand) (ho : o.op = .store t x y) (h : Hid (wpList P ops Q (o :: rest) a w)) : wpList P ops Q (o :: rest) a w := h
theorem zAppend (x y : Operand) (t : TypeId) (ho : o.op = .call { callee := .builtin .append, args := #[x, y], argTypes := #[t, t] }) (h : Hid (wpList P ops Q (o :: rest) a w)) : wpList P ops Q (o :: rest) a w := h
theorem zCopy (d s : Operand) (dT sT : TypeId) (ho : o.op = .call { callee := .builtin .copy, args := #[d, s], argTypes := #[dT, sT] }) (h : Hid (wpList P ops Q (o :: rest) a w)) : wpList P ops Q (o :: rest) a w := h
theorem zMax (x y : Operand) (t u : TypeId) (ho : o.op = .call { callee := .builtin .max, args := #[x, y], argTypes := #[t, u] }) (h : Hid (wpList P ops Q (o :: rest) a w)) : wpList P ops Q (o :: rest) a w := h
theorem zMin (x y : Operand) (t u : TypeId) (ho : o.op = .call { callee := .builtin .min, args := #[x, y], argTypes := #[t, u] }) (h : Hid (wpList P ops Q (o :: rest) a w)) : wpList P ops Q (o :: rest) a w := h
end
theorem ownFar {w : World} {B : Nat} {e : TypeId} {size n : Nat} {v : Value} {xs : List Value} (h : w.ownsRow B e size v n xs) : ∀ k, v.ownBlock = some k → B ≤ k := fun k hk => by
  rcases h with ⟨h1, ⟨rfl, _⟩ | ⟨g, cap, cur, rfl, h3, h4⟩⟩
  · cases hk
  · have e2 : g = k := by simpa [Value.ownBlock] using hk
    omega
/-- A row of cells that is the call's own and is not empty. -/
theorem ownCells {w : World} {B n : Nat} {t : TypeId} {tv : Value} {rows : List Value} (hn : 0 < n) (h : w.ownsRow B t 1 tv n rows) :
    ∃ gg cap, tv = .slice (some ⟨gg, 0, none⟩) n cap ∧ n ≤ cap ∧ cap ≤ maxLen ∧ B ≤ gg ∧ gg < w.heap.size ∧ ∀ i u, rows[i]? = some u → w.cell? ⟨gg, i, none⟩ = some u := by
  rcases h with ⟨h0, ⟨h1, h2⟩ | ⟨k, cap, cur, h1, hB, h2, h3, h4, h5, h6⟩⟩
  · omega
  · have hW : Whole w k t cur.toList := by simpa [Whole] using h2
    refine ⟨k, cap, h1, h3, h4, hB, hW.lt, fun i u hu => ?_⟩
    rw [hW.cell]
    have hi : i < rows.length := (List.getElem?_eq_some_iff.1 hu).1
    rw [← h6, List.getElem?_take, if_pos (by omega)] at hu
    exact hu
/-- .. of rows of one size. -/
theorem ownRows {w : World} {B n sz : Nat} {t : TypeId} {tv : Value} {rows : List (List Value)} (hn : 0 < n) (he : Even sz rows) (hl : rows.length = n) (h : w.ownsRow B t sz tv n rows.flatten) :
    ∃ gg cap, tv = .slice (some ⟨gg, 0, none⟩) n cap ∧ n ≤ cap ∧ cap ≤ maxLen ∧ B ≤ gg ∧ gg < w.heap.size ∧ ∀ i r, rows[i]? = some r → w.rangeAt gg (i * sz) r := by
  rcases h with ⟨h0, ⟨h1, h2⟩ | ⟨k, cap, cur, h1, hB, h2, h3, h4, h5, h6⟩⟩
  · omega
  · have hW : Whole w k t cur.toList := by simpa [Whole] using h2
    refine ⟨k, cap, h1, h3, h4, hB, hW.lt, fun i r hr j v hv => ?_⟩
    have hrl : r.length = sz := he r (List.mem_of_getElem? hr)
    have hj : j < sz := by rw [← hrl]; exact (List.getElem?_eq_some_iff.1 hv).1
    have e : rows.flatten[i * sz + j]? = some v := by rw [flat_at he i j hj, hr]; exact hv
    have hi : i * sz + j < rows.flatten.length := (List.getElem?_eq_some_iff.1 e).1
    rw [hW.cell]
    rw [← h6, List.getElem?_take, if_pos (by omega)] at e
    exact e
end Go.Proofs.Ytnekiiahgidkoaa.Z

/- The library's DeleteFunc at writes that wait: those of a span go, the others close up. The library's DeleteFunc at writes that wait, and the disk's take. The disk's take: a span's writes are taken out of those that wait. -/
import Derived.Test.YtoegohofmhijgaaDoorProg
import Derived.Test.YtoegohofmhijgaaDoorPut
import Derived.Lib.SliceRun
import Derived.Deep.RegionWith
section
namespace Go.Proofs.YtoegohofmhijgaaDoor.D
open Go.RowKit
set_option linter.unusedVariables false

section
variable (d g : Nat) (v : Value) (lie : List (List UInt8)) (ws : List (Nat × List UInt8)) (w : World)
end

/-- A row of writes, in block k. -/
structure WRow (w : World) (k m : Nat) (ws : List (Nat × List UInt8)) : Prop where
  len : ws.length = m
  row : ∀ j p, ws[j]? = some p → w.rangeAt k (j * 65) (wrow p)
  l64 : ∀ p ∈ ws, p.2.length = 64
  lt : ∀ p ∈ ws, p.1 < 8192
theorem WRow.below {w w' : World} {k m : Nat} {ws : List (Nat × List UInt8)} (h : WRow w k m ws) (hb : Below w.heap.size w w') : WRow w' k m ws := ⟨h.len, fun j p hp i u hu => keepCell hb (h.row j p hp i u hu), h.l64, h.lt⟩

theorem stopClear {P : Program} {w : World} {ops : Array Oper} {rest : List Oper} {o : Oper} {a : Act} {Q : Exit → Act → World → Prop} (x : Operand) (t : TypeId)
    (ho : o.op = .call { callee := .builtin .clear, args := #[x], argTypes := #[t] }) (h : Hid (wpList P ops Q (o :: rest) a w)) : wpList P ops Q (o :: rest) a w := h
end Go.Proofs.YtoegohofmhijgaaDoor.D
end
section
namespace Go.Proofs.YtoegohofmhijgaaDoor.D
open Go.RowKit
set_option linter.unusedVariables false

/-- What stays. -/
def keepB (from_ n : Nat) (p : Nat × List UInt8) : Bool := !spanB from_ n p
/-- A row of the first ones in a block. -/
theorem row_app {w : World} {b sz : Nat} {t : TypeId} {rows : List (List Value)} {tail : List Value} (h : Whole w b t (rows.flatten ++ tail)) (he : Even sz rows) {i : Nat} {r : List Value} (hr : rows[i]? = some r) : w.rangeAt b (i * sz) r := fun j v hv => by
  have hi : i < rows.length := (List.getElem?_eq_some_iff.1 hr).1
  have hrl : r.length = sz := he r (List.mem_of_getElem? hr)
  have hj : j < sz := by rw [← hrl]; exact (List.getElem?_eq_some_iff.1 hv).1
  have e : rows.flatten[i * sz + j]? = some v := by rw [flat_at he i j hj, hr]; exact hv
  rw [h.cell, List.getElem?_append_left (List.getElem?_eq_some_iff.1 e).1, e]
theorem Whole.uniq {w : World} {b : Nat} {t : TypeId} {cs ds : List Value} (h : Whole w b t cs) (k : Whole w b t ds) : cs = ds := by
  have e := h.symm.trans k
  injection e with e
  injection e with e
  simpa using e
theorem splice_app {sz : Nat} {rows : List (List Value)} {tail : List Value} (he : Even sz rows) (i : Nat) (hi : i < rows.length) {r : List Value} (hr : r.length = sz) : splice (rows.flatten ++ tail) (i * sz) r = (rows.set i r).flatten ++ tail := by
  have hfl := flat_len he
  have hle : i * sz + sz ≤ rows.flatten.length := by
    rw [hfl]
    have : (i + 1) * sz ≤ rows.length * sz := Nat.mul_le_mul_right _ hi
    rw [Nat.succ_mul] at this; exact this
  rw [← splice_row he i hi hr]
  unfold splice
  rw [List.take_append_of_le_length (by omega), List.drop_append_of_le_length (by omega)]
  simp [List.append_assoc]
theorem keep_before {from_ n i : Nat} {ws : List (Nat × List UInt8)} {p : Nat × List UInt8} (hp : ws[i]? = some p) (hs : spanB from_ n p = true) (hno : ∀ j q, j < i → ws[j]? = some q → spanB from_ n q = false) : (ws.take (i + 1)).filter (keepB from_ n) = ws.take i := by
  rw [filter_snoc hp, show keepB from_ n p = false by simp [keepB, hs], if_neg (by decide), List.append_nil]
  apply List.filter_eq_self.2
  intro q hq
  obtain ⟨j, hj, rfl⟩ := List.mem_iff_getElem.1 hq
  have hjl : j < i := by rw [List.length_take] at hj; omega
  rw [List.getElem_take]
  simp [keepB, hno j _ hjl (List.getElem?_eq_getElem (by rw [List.length_take] at hj; omega))]
section
variable {w wr : World} {k cap from_ n i j : Nat} {ws : List (Nat × List UInt8)} {tail : List Value}
end

end Go.Proofs.YtoegohofmhijgaaDoor.D
end
section
namespace Go.Proofs.YtoegohofmhijgaaDoor.D
open Go.RowKit
set_option linter.unusedVariables false

theorem stopBuild {P : Program} {w : World} {ops : Array Oper} {rest : List Oper} {o : Oper} {a : Act} {Q : Exit → Act → World → Prop} (t : TypeId) (x : Operand)
    (ho : o.op = .buildSlice t 1 #[(0, x)]) (h : Hid (wpList P ops Q (o :: rest) a w)) : wpList P ops Q (o :: rest) a w := h
theorem stopAppend {P : Program} {w : World} {ops : Array Oper} {rest : List Oper} {o : Oper} {a : Act} {Q : Exit → Act → World → Prop} (x y : Operand) (t : TypeId)
    (ho : o.op = .call { callee := .builtin .append, args := #[x, y], argTypes := #[t, t] }) (h : Hid (wpList P ops Q (o :: rest) a w)) : wpList P ops Q (o :: rest) a w := h
theorem own_low {w : World} {b B : Nat} {e : TypeId} {size n : Nat} {v : Value} {xs : List Value} (h : w.ownsRow B e size v n xs) (hb : b ≤ B) : w.ownsRow b e size v n xs := by
  rcases h with ⟨h1, h2 | ⟨g, cap, cur, h2, h3, h4⟩⟩
  · exact ⟨h1, .inl h2⟩
  · exact ⟨h1, .inr ⟨g, cap, cur, h2, by omega, h4⟩⟩
theorem own_far {w : World} {B : Nat} {e : TypeId} {size n : Nat} {v : Value} {xs : List Value} (h : w.ownsRow B e size v n xs) : ∀ k, v.ownBlock = some k → B ≤ k := fun k hk => by
  rcases h with ⟨h1, ⟨rfl, _⟩ | ⟨g, cap, cur, rfl, h3, h4⟩⟩
  · cases hk
  · have e2 : g = k := by simpa [Value.ownBlock] using hk
    omega
end Go.Proofs.YtoegohofmhijgaaDoor.D
end

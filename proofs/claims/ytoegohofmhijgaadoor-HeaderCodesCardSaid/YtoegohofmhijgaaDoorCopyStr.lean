/- Strings of any length that are copied into bytes; rows of bytes that are a block. -/
import Derived.Test.YtoegohofmhijgaaDoorProg
import Derived.Test.YtoegohofmhijgaaDoorBytes
import Derived.Test.YtoegohofmhijgaaDoorFlat
import Derived.Deep.OwnRows
import Derived.Deep.RegionLaw
namespace Go.Proofs.YtoegohofmhijgaaDoor.W
open Go.RowKit
open Go.Proofs.YtoegohofmhijgaaDoor.M
open Go.Proofs.YtoegohofmhijgaaDoor.D
set_option linter.unusedVariables false

/-- 'copy(dst, s)', s a string of any length. -/
theorem run_copy_str {P : Program} (w : World) (dT sT ty elem : TypeId) (b o dLen dCap : Nat) (t : ByteArray) (m : Nat)
    (hu : P.underlying dT = some (.slice elem)) (hz : ∀ w, (Go.sizeOf elem).run P w = .ok 1 w) (hm : Nat.min t.size dLen = m)
    (hc : ∀ j, j < m → (w.cell? ⟨b, o + j, none⟩).isSome = true) (hf : ∀ j, j < m → w.frozen? ⟨b, o + j, none⟩ = false) :
    (Builtin.copy_ #[dT, sT] ty #[.slice (some ⟨b, o, none⟩) dLen dCap, .string t]).run P w = .ok (goInt m) (w.setCells b o (bytesV (t.data.toList.take m))) := by
  have hl : (bytesV (t.data.toList.take m)).length = m := by
    rw [bytesV_len, List.length_take]
    have : t.data.toList.length = t.size := by simp
    have := Nat.min_le_left t.size dLen
    have := Nat.min_le_right t.size dLen
    have : Nat.min t.size dLen ≤ t.size := Nat.min_le_left _ _
    omega
  have hst := run_storeCells_cells (P := P) b o (bytesV (t.data.toList.take m)) 0 w (by rw [hl]; simpa using hc) (by rw [hl]; simpa using hf) (bytesV_one _)
  simp [Builtin.copy_, run_underlying hu, Builtin.lenOf, Builtin.firstCells, hz, hm]
  rw [show List.take m (List.map (fun b : UInt8 => Value.int IntKind.u8 (b.toNat : Int)) t.data.toList) = bytesV (t.data.toList.take m) from by
    unfold bytesV; rw [List.map_take]; rfl, hst]
  rfl
theorem step_copy_str {P : Program} {ops : Array Oper} {o : Oper} {a : Act} {w : World} {K : Act → World → Prop} {Q : Exit → Act → World → Prop} {E : Prop}
    (hg : o.guard = none) (d x : Operand) (dT sT : TypeId) (hop : o.op = Op.call { callee := Callee.builtin Builtin.copy, args := #[d, x], argTypes := #[dT, sT] })
    (elem : TypeId) (hu : P.underlying dT = some (.slice elem)) (hz : ∀ w, (Go.sizeOf elem).run P w = .ok 1 w)
    (b off dLen dCap : Nat) (hd : a.eval d = .slice (some ⟨b, off, none⟩) dLen dCap) (t : ByteArray) (hx : a.eval x = .string t) (m : Nat) (hm : Nat.min t.size dLen = m)
    (hth : w.there b off m)
    (hK : K (a.put o.dst (goInt m)) (w.setCells b off (bytesV (t.data.toList.take m)))) :
    if Region.wanted o (yielded ops a.tmps) = true then Oper.wp P o a w K Q else E := by
  have hw : Region.wanted o (yielded ops a.tmps) = true := by simp [Region.wanted, hg]
  rw [if_pos hw]
  have hrun := run_copy_str (P := P) w dT sT o.type elem b off dLen dCap t m hu hz hm (fun j hj => (hth j hj).1) (fun j hj => (hth j hj).2)
  unfold Oper.wp
  simp [execOp, hop, resolve, invoke, builtin, hd, hx, hrun, Result.andThen]
  exact hK

theorem rowOf {w : World} {g : Nat} {t : TypeId} {l : List UInt8} (h : Whole w g t (bytesV l)) : ByteRow w g l := fun j hj => by
  refine ⟨?_, h.frozen j⟩
  rw [h.cell]
  unfold bytesV
  rw [List.getElem?_map, List.getElem?_eq_getElem hj]
  show some (u8v _) = _
  unfold u8v bt
  rw [List.getD, List.getElem?_eq_getElem hj]
  rfl
theorem sizeU8' : ∀ w, (Go.sizeOf 5).run Tryd.prog w = .ok 1 w := fun w => by kernel_rfl
end Go.Proofs.YtoegohofmhijgaaDoor.W

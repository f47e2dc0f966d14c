/- Rows of bytes that a call made out of a string; nothing of the program. Strings of any length that are copied into bytes; rows of bytes that are a block. -/
import Derived.WalkKit
import Derived.Laws.IdiomStrings
import Derived.Test.YtgogackkeodciabGreatDoorUnchain
import Derived.Test.YtgogackkeodciabGreatDoorProg
import Derived.Test.YtgogackkeodciabGreatDoorFlat
import Derived.Deep.OwnRows
import Derived.Deep.RegionLaw
section
namespace Go.Proofs.YtgogackkeodciabGreatDoor.M
open Go.RowKit
set_option linter.unusedVariables false
/-- From cell 0 of block b on lie the bytes l, and none of them is frozen. -/
def ByteRow (w : World) (b : Nat) (l : List UInt8) : Prop := ∀ j, j < l.length → w.cell? ⟨b, j, none⟩ = some (.int .u8 (bt l j : Nat)) ∧ w.frozen? ⟨b, j, none⟩ = false
theorem ByteRow.made (w : World) (s : ByteArray) (cap : Nat) (e : TypeId) :
    ByteRow (w.drew.alloc (.cells (bytesRow s cap) e ((bytesRow s cap).size, (bytesRow s cap).size + 1))) w.heap.size s.data.toList := by
  intro j hj
  have hj' : j < s.data.size := by simpa using hj
  have hz : s.data.size ≤ (bytesRow s cap).size := by unfold bytesRow; simp
  refine ⟨?_, ?_⟩
  · have := World.cell?_alloc_mark w.drew (bytesRow s cap) e ((bytesRow s cap).size, (bytesRow s cap).size + 1) j
    rw [show w.drew.heap.size = w.heap.size from rfl] at this
    rw [this, bytesRow_at s cap j hj', ← bt_of s j hj']
    rfl
  · have := World.frozen?_alloc_mark w.drew (bytesRow s cap) e (bytesRow s cap).size ((bytesRow s cap).size + 1) j
    rw [show w.drew.heap.size = w.heap.size from rfl] at this
    rw [this, decide_eq_false (by omega)]
    rfl
theorem ByteRow.drew {w : World} {b : Nat} {l : List UInt8} (h : ByteRow w b l) : ByteRow w.drew b l := h
theorem bt_set (l : List UInt8) (i j : Nat) (x : UInt8) (hi : i < l.length) : bt (l.set i x) j = if j = i then x.toNat else bt l j := by
  unfold bt
  rw [List.getD, List.getD, List.getElem?_set]
  by_cases h : i = j
  · subst h; simp [hi]
  · rw [if_neg h, if_neg (fun e => h e.symm)]
theorem ByteRow.set {w : World} {b : Nat} {l : List UInt8} (h : ByteRow w b l) (i : Nat) (hi : i < l.length) (x : Int) (h0 : 0 ≤ x) (h1 : x < 256) :
    ByteRow (w.setCell ⟨b, i, none⟩ (.int .u8 x)) b (l.set i (UInt8.ofNat x.toNat)) := by
  intro j hj
  have hj' : j < l.length := by simpa using hj
  refine ⟨?_, by rw [World.frozen?_setCell]; exact (h j hj').2⟩
  rw [bt_set l i j _ hi]
  by_cases e : j = i
  · subst e
    rw [World.cell?_setCell_same _ _ _ (h j hj').1, if_pos rfl, UInt8.toNat_ofNat']
    congr 2; omega
  · rw [World.cell?_setCell_other _ _ _ _ (by intro he; injection he with _ h2 _; exact e h2.symm), if_neg e]
    exact (h j hj').1
theorem ByteRow.back {P : Program} {w : World} {b : Nat} {l : List UInt8} (h : ByteRow w b l) (src dst e : TypeId) (cap n : Nat) (hn : n = l.length) (hs : P.underlying src = some (.slice e)) (he : P.underlying e = some (.int .u8)) (hd : P.underlying dst = some .string) :
    (convert src dst (.slice (some ⟨b, 0, none⟩) n cap)).run P w = .ok (.string (B l)) w := by
  subst hn
  exact run_convert_bytes_back (P := P) w src dst e ⟨b, 0, none⟩ cap l hs he hd (fun j hj => by
    rw [show (⟨b, 0, none⟩ : Addr).add j = ⟨b, j, none⟩ from by simp [Addr.add]; try omega]
    rw [(h j hj).1]
    have : bt l j = l[j].toNat := by unfold bt; rw [List.getD, List.getElem?_eq_getElem hj]; rfl
    rw [this])
end Go.Proofs.YtgogackkeodciabGreatDoor.M
end
section
namespace Go.Proofs.YtgogackkeodciabGreatDoor.W
open Go.RowKit
open Go.Proofs.YtgogackkeodciabGreatDoor.M
open Go.Proofs.YtgogackkeodciabGreatDoor.D
set_option linter.unusedVariables false

/-- 'copy(dst, s)', s a string of any length. -/
theorem run_copy_str {P : Program} (w : World) (dT sT ty elem : TypeId) (b o dLen dCap : Nat) (t : ByteArray) (m : Nat)
    (hu : P.underlying dT = some (.slice elem)) (hz : ∀ w, (Go.sizeOf elem).run P w = .ok 1 w) (hm : Nat.min t.size dLen = m)
    (hc : ∀ j, j < m → (w.cell? ⟨b, o + j, none⟩).isSome = true) (hf : ∀ j, j < m → w.frozen? ⟨b, o + j, none⟩ = false) :
    (Builtin.copy_ #[dT, sT] ty #[.slice (some ⟨b, o, none⟩) dLen dCap, .string t]).run P w = .ok (goInt m) (w.setCells b o (bytesV (t.data.toList.take m))) := by
  have hl : (bytesV (t.data.toList.take m)).length = m := by
    rw [bytesV_len, List.length_take]
    have : t.data.toList.length = t.size := by simp
    have := Nat.min_le_left t.size dLen
    have := Nat.min_le_right t.size dLen
    have : Nat.min t.size dLen ≤ t.size := Nat.min_le_left _ _
    omega
  have hst := run_storeCells_cells (P := P) b o (bytesV (t.data.toList.take m)) 0 w (by rw [hl]; simpa using hc) (by rw [hl]; simpa using hf) (bytesV_one _)
  simp [Builtin.copy_, run_underlying hu, Builtin.lenOf, Builtin.firstCells, hz, hm]
  rw [show List.take m (List.map (fun b : UInt8 => Value.int IntKind.u8 (b.toNat : Int)) t.data.toList) = bytesV (t.data.toList.take m) from by
    unfold bytesV; rw [List.map_take]; rfl, hst]
  rfl
theorem step_copy_str {P : Program} {ops : Array Oper} {o : Oper} {a : Act} {w : World} {K : Act → World → Prop} {Q : Exit → Act → World → Prop} {E : Prop}
    (hg : o.guard = none) (d x : Operand) (dT sT : TypeId) (hop : o.op = Op.call { callee := Callee.builtin Builtin.copy, args := #[d, x], argTypes := #[dT, sT] })
    (elem : TypeId) (hu : P.underlying dT = some (.slice elem)) (hz : ∀ w, (Go.sizeOf elem).run P w = .ok 1 w)
    (b off dLen dCap : Nat) (hd : a.eval d = .slice (some ⟨b, off, none⟩) dLen dCap) (t : ByteArray) (hx : a.eval x = .string t) (m : Nat) (hm : Nat.min t.size dLen = m)
    (hth : w.there b off m)
    (hK : K (a.put o.dst (goInt m)) (w.setCells b off (bytesV (t.data.toList.take m)))) :
    if Region.wanted o (yielded ops a.tmps) = true then Oper.wp P o a w K Q else E := by
  have hw : Region.wanted o (yielded ops a.tmps) = true := by simp [Region.wanted, hg]
  rw [if_pos hw]
  have hrun := run_copy_str (P := P) w dT sT o.type elem b off dLen dCap t m hu hz hm (fun j hj => (hth j hj).1) (fun j hj => (hth j hj).2)
  unfold Oper.wp
  simp [execOp, hop, resolve, invoke, builtin, hd, hx, hrun, Result.andThen]
  exact hK

theorem rowOf {w : World} {g : Nat} {t : TypeId} {l : List UInt8} (h : Whole w g t (bytesV l)) : ByteRow w g l := fun j hj => by
  refine ⟨?_, h.frozen j⟩
  rw [h.cell]
  unfold bytesV
  rw [List.getElem?_map, List.getElem?_eq_getElem hj]
  show some (u8v _) = _
  unfold u8v bt
  rw [List.getD, List.getElem?_eq_getElem hj]
  rfl
theorem sizeU8' : ∀ w, (Go.sizeOf 5).run Tryz.prog w = .ok 1 w := fun w => by kernel_rfl
end Go.Proofs.YtgogackkeodciabGreatDoor.W
end

/- The walks of the definitions of layer 8. The walk of the definition of Decode of layer 8. -/
import Derived.Test.YtgogackkeodciabGreatDoorProg
import Derived.Test.YtgogackkeodciabGreatDoorFrameM
import Derived.Test.YtgogackkeodciabGreatDoorFixed
import Derived.Test.YtgogackkeodciabGreatDoorCrc
import Derived.Test.YtgogackkeodciabGreatDoorWorld
import Derived.Test.YtgogackkeodciabGreatDoorOpen
import Derived.ProofKit
import Derived.OpenShut
import Derived.Below
import Derived.Outline
import Derived.Lib.Hide
import Derived.Deep.RegionHeld3
import Derived.Test.YtgogackkeodciabGreatDoorFlat
import Derived.Test.YtgogackkeodciabGreatDoorStops
import Derived.Deep.QuietTactic
import Derived.BigQuiet
import Derived.BigRegion
section
namespace Go.Proofs.YtgogackkeodciabGreatDoor.W
open Go.RowKit
open Go.Proofs.YtgogackkeodciabGreatDoor.M
set_option linter.unusedVariables false

theorem keepR {w w' : World} (h : Below w.heap.size w w') {a : Addr} {v : Value} (hc : w.cell? a = some v) : w'.cell? a = some v := by
  rw [h.cell (cell_lt hc)]; exact hc

theorem keptByte {W w' : World} {x : Int} {e : TypeId} (h : Below (W.alloc (.cells #[.int .u8 x] e)).heap.size (W.alloc (.cells #[.int .u8 x] e)) w') : w'.cell? ⟨W.heap.size, 0, none⟩ = some (.int .u8 x) :=
  keepR h (by simp)
theorem keepA {w w' : World} {o : Obj} (h : Below (w.alloc o).heap.size (w.alloc o) w') {a : Addr} {v : Value} (hc : w.cell? a = some v) : w'.cell? a = some v :=
  keepR h (by rw [World.cell?_alloc_lt _ _ _ (cell_lt hc)]; exact hc)
theorem undrew {W w' : World} (h : Below W.drew.heap.size W.drew w') : Below W.heap.size W w' := ⟨h.os, h.tape, h.output, h.size, h.block⟩
theorem grewA {w W w' : World} {o : Obj} (h : Below w.heap.size w W) (hb : Below (W.alloc o).heap.size (W.alloc o) w') : Below w.heap.size w w' := grew (grewAlloc h o) hb

/-- The conversion of the kind's byte, named: so the region's walk doesn't try it ahead of its turn. -/
def cvOp : Oper := { dst := some 27, op := .convert 71 9 (.tmp 26), type := 9, pos := "ref.go:32", after := #[{ on := 19, ground := .data }], guard := none }
theorem cvOp_eq : ({ dst := some 27, op := .convert 71 9 (.tmp 26), type := 9, pos := "ref.go:32", after := #[{ on := 19, ground := .data }], guard := none } : Oper) = cvOp := rfl
attribute [local go_sem] cvOp

end Go.Proofs.YtgogackkeodciabGreatDoor.W
end
section
namespace Go.Proofs.YtgogackkeodciabGreatDoor.W
open Go.RowKit
open Go.Proofs.YtgogackkeodciabGreatDoor.M
open Go.Proofs.YtgogackkeodciabGreatDoor.D
open Go.Proofs.YtgogackkeodciabGreatDoor.Z
set_option linter.unusedVariables false

/-- What its Decode tells. -/
abbrev rdecV (st pl : Int) (s : ByteArray) : Value := .agg #[.int .i64 (decK st pl s), .string (decP st pl s), .int .i64 (decN st pl s), .int .i64 (decWhy st pl s)]
abbrev rnoV (x : Int) : Value := .agg #[.int .i64 0, .string ⟨#[]⟩, .int .i64 0, .int .i64 x]
theorem rdecV_no {st pl : Int} {s : ByteArray} {x : Int} (h : decWhy st pl s = x) (hx : x ≠ 0) : rdecV st pl s = rnoV x := by
  obtain ⟨e1, e2, e3⟩ := decNo h hx
  unfold rdecV rnoV
  rw [e1, e2, e3, h]
theorem rdecV_yes {st pl : Int} {s : ByteArray} (h : decWhy st pl s = 0) : rdecV st pl s = .agg #[.int .i64 (bt s.data.toList 6 : Nat), .string (s.extract 7 (6 + toldF s)), .int .i64 ((6 + toldF s : Nat) : Int), .int .i64 0] := by
  obtain ⟨e1, e2, e3⟩ := decYes h
  unfold rdecV
  rw [e1, e2, e3, h]

theorem rfar_store {w W : World} {b : Nat} (hb : Below w.heap.size w W) (hB : w.heap.size ≤ b) (vs : List Value) : Below w.heap.size w (W.setCells b 0 vs) :=
  hb.trans (((Kept.refl (fun q => q = b) W).setCells (c := b) (.inl rfl) 0 vs).below hb.size (fun q hq => by omega))

end Go.Proofs.YtgogackkeodciabGreatDoor.W
end

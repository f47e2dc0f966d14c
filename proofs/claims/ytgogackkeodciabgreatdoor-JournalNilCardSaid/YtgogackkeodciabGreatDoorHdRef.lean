/- The walk of the definition of headers: Encode. The walks of the definition of headers: Decode. -/
import Derived.Test.YtgogackkeodciabGreatDoorHdA
import Derived.Test.YtgogackkeodciabGreatDoorZeros
import Derived.Test.YtgogackkeodciabGreatDoorCrc
import Derived.Test.YtgogackkeodciabGreatDoorQuietB
import Derived.Deep.RegionHeld3
import Derived.Test.YtgogackkeodciabGreatDoorFixed
import Derived.Test.YtgogackkeodciabGreatDoorStops
section
namespace Go.Proofs.YtgogackkeodciabGreatDoor.W
open Go.RowKit Go.Sort
open Go.Proofs.YtgogackkeodciabGreatDoor.M Go.Proofs.YtgogackkeodciabGreatDoor.D Go.Proofs.YtgogackkeodciabGreatDoor.Z
set_option linter.unusedVariables false

def cvOpH : Oper := { dst := some 25, op := .convert 71 9 (.tmp 24), type := 9, pos := "ref.go:23", after := #[{ on := 20, ground := .data }], guard := none }
theorem cvOpH_eq : ({ dst := some 25, op := .convert 71 9 (.tmp 24), type := 9, pos := "ref.go:23", after := #[{ on := 20, ground := .data }], guard := none } : Oper) = cvOpH := rfl
attribute [local go_sem] cvOpH
theorem keepH {w w' : World} (h : Below w.heap.size w w') {a : Addr} {v : Value} (hc : w.cell? a = some v) : w'.cell? a = some v := keepZ h hc
theorem keepHA {w w' : World} {o : Obj} (h : Below (w.alloc o).heap.size (w.alloc o) w') {a : Addr} {v : Value} (hc : w.cell? a = some v) : w'.cell? a = some v :=
  keepZ h (by rw [World.cell?_alloc_lt _ _ _ (cell_lt hc)]; exact hc)
theorem undrewH {W w' : World} (h : Below W.drew.heap.size W.drew w') : Below W.heap.size W w' := ⟨h.os, h.tape, h.output, h.size, h.block⟩
theorem grewHA {w W w' : World} {o : Obj} (h : Below w.heap.size w W) (hb : Below (W.alloc o).heap.size (W.alloc o) w') : Below w.heap.size w w' := grew (grewAlloc h o) hb
theorem whole_string {w : World} {b n : Nat} {cs : Array Value} (hcs : cs.toList = List.replicate n (.int .u8 0)) (h : Whole w b 5 cs.toList) :
    (convert 71 9 (.slice (some ⟨b, 0, none⟩) n n)).run Tryz.prog w = .ok (.string (zerosB n)) w := by
  have hz : cs.toList = bytesV (List.replicate n (0 : UInt8)) := by rw [hcs]; unfold bytesV; rw [List.map_replicate]; rfl
  rw [hz] at h
  exact (rowOf h).back (P := Tryz.prog) 71 9 5 n n (by simp) Tryz.underlying71 Tryz.underlying5 Tryz.underlying9
end Go.Proofs.YtgogackkeodciabGreatDoor.W
end
section
namespace Go.Proofs.YtgogackkeodciabGreatDoor.W
open Go.RowKit Go.Sort
open Go.Proofs.YtgogackkeodciabGreatDoor.M Go.Proofs.YtgogackkeodciabGreatDoor.D Go.Proofs.YtgogackkeodciabGreatDoor.Z
set_option linter.unusedVariables false

end Go.Proofs.YtgogackkeodciabGreatDoor.W
end

/- Rows of bytes 0 that the program makes, as strings. -/
import Derived.Test.YtgogackkeodciabGreatDoorProg
import Derived.Test.YtgogackkeodciabGreatDoorCopyStr
import Derived.Test.YtgogackkeodciabGreatDoorFrameM
import Derived.Test.YtgogackkeodciabGreatDoorPut
namespace Go.Proofs.YtgogackkeodciabGreatDoor.W
open Go.RowKit
open Go.Proofs.YtgogackkeodciabGreatDoor.M
open Go.Proofs.YtgogackkeodciabGreatDoor.D
set_option linter.unusedVariables false

/-- Bytes 0. -/
def zerosB (n : Nat) : ByteArray := B (List.replicate n 0)
theorem zerosB_size (n : Nat) : (zerosB n).size = n := by unfold zerosB; rw [B_size]; simp
/-- 'make([]byte, n)', and its string. -/
theorem zero_string (n : Nat) (cs : Array Value) (hcs : cs.toList = List.replicate n (.int .u8 0)) (W : World) :
    (convert 71 9 (.slice (some ⟨W.heap.size, 0, none⟩) n n)).run Tryz.prog (W.alloc (.cells cs 5)) = .ok (.string (zerosB n)) (W.alloc (.cells cs 5)) := by
  have hW := Whole.new W 5 (bytesV (List.replicate n 0))
  have e : bytesV (List.replicate n 0) = cs.toList := by rw [hcs]; unfold bytesV; rw [List.map_replicate]; rfl
  rw [e] at hW
  have hR : Whole (W.alloc (.cells cs 5)) W.heap.size 5 (bytesV (List.replicate n 0)) := by rw [e]; exact hW
  exact (rowOf hR).back 71 9 5 n n (by simp) Tryz.underlying71 Tryz.underlying5 Tryz.underlying9
theorem make_bytes (n : Nat) (hn : n ≤ 281474976710656) : ∃ cs : Array Value, cs.toList = List.replicate n (.int .u8 0) ∧
    ∀ W : World, (Instr.makeSlice 71 (.int .i64 (n : Int)) (.int .i64 (n : Int))).run Tryz.prog W = .ok (.slice (some ⟨W.heap.size, 0, none⟩) n n) (W.alloc (.cells cs 5)) := by
  obtain ⟨i0, hi0, hz0, hz1, hz2⟩ := info_parts infoByte
  have hmk := fun W => run_make_rowN (P := Tryz.prog) 71 5 i0 _ Tryz.underlying71 hi0 hz0 .i64 .i64 n (by rw [hz2]; omega) (by omega) W
  rw [hz1, show (Value.int .u8 0).cells = Array.replicate 1 (.int .u8 0) from rfl, Nat.mul_one] at hmk
  exact ⟨_, made_one _ _ _ (by omega), hmk⟩
end Go.Proofs.YtgogackkeodciabGreatDoor.W

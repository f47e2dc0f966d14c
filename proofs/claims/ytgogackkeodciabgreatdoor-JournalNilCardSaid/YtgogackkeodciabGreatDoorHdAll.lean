/- What headers and bytes tell, of any: package header beside its definition; the small case of layer 11. Headers held against one another; the small case that each law of layer 11 asks. -/
import Derived.Test.YtgogackkeodciabGreatDoorHdEnc
import Derived.Test.YtgogackkeodciabGreatDoorHdRef
section
namespace Go.Proofs.YtgogackkeodciabGreatDoor.M
open Go.RowKit
open Go.Proofs.YtgogackkeodciabGreatDoor.D
set_option linter.unusedVariables false

/-- The numbers of the first 32 bytes are those of the bytes. -/
theorem ext_ext (s : ByteArray) (i j : Nat) (h : j ≤ 32) : ((s.extract 0 32).extract i j).data.toList = (s.extract i j).data.toList := by
  rw [ext_list, ext_list, ext_list, List.drop_zero, List.drop_take, List.take_take]
  congr 1
  omega
theorem numH_first (s : ByteArray) : numH (s.extract 0 32) 0 = logH s ∧ numH (s.extract 0 32) 1 = genH s ∧ numH (s.extract 0 32) 2 = stH s ∧ numH (s.extract 0 32) 3 = baseH s := by
  unfold numH logH genH stH baseH
  refine ⟨?_, ?_, ?_, ?_⟩ <;> exact congrArg rd (ext_ext s _ _ (by decide))
end Go.Proofs.YtgogackkeodciabGreatDoor.M
namespace Go.Proofs.YtgogackkeodciabGreatDoor.W
open Go.RowKit
open Go.Proofs.YtgogackkeodciabGreatDoor.M Go.Proofs.YtgogackkeodciabGreatDoor.D Go.Proofs.YtgogackkeodciabGreatDoor.Z
set_option linter.unusedVariables false

theorem wrap_small (d : Nat) (h : d ≤ 1099511627776) : wrap64 (d : Int) = d := IntWalk.wrap64_in _ (by omega)
end Go.Proofs.YtgogackkeodciabGreatDoor.W
end
section
namespace Go.Proofs.YtgogackkeodciabGreatDoor.W
open Go.RowKit Go.Sort
open Go.Proofs.YtgogackkeodciabGreatDoor.M Go.Proofs.YtgogackkeodciabGreatDoor.D Go.Proofs.YtgogackkeodciabGreatDoor.Z
set_option linter.unusedVariables false

theorem key_hd : Tryz.prog.keyTypeAt 3 80 = true := by kernel_rfl
theorem cHu : Tryz.prog.cellsOf 29 = 1 := by kernel_rfl
theorem cHi : Tryz.prog.cellsOf 3 = 1 := by kernel_rfl
theorem cHd : Tryz.prog.cellsOf 80 = 4 := by kernel_rfl
theorem litHu (a : Int) (h : (Lit.int .u32 a).wf = true) (d : Nat) : Tryz.prog.keyLits (d + 1) 29 [.int .u32 a] = some [.int .u32 a] := by
  unfold Program.keyLits
  rw [Tryz.underlying29]
  simp [h]
theorem litHi (a : Int) (h : (Lit.int .i64 a).wf = true) (d : Nat) : Tryz.prog.keyLits (d + 1) 3 [.int .i64 a] = some [.int .i64 a] := by
  unfold Program.keyLits
  rw [Tryz.underlying3]
  simp [h]
theorem lits_hd (a g s b : Int) (ha : (Lit.int .i64 a).wf = true) (hg : (Lit.int .u32 g).wf = true) (hs : (Lit.int .u32 s).wf = true) (hb : (Lit.int .i64 b).wf = true) : Tryz.prog.keyLits 3 80 (hdr a g s b) = some [.int .i64 a, .int .u32 g, .int .u32 s, .int .i64 b] := by
  unfold Program.keyLits
  rw [Tryz.underlying80]
  simp [cHd, cHu, cHi, litHi a ha 1, litHu g hg 1, litHu s hs 1, litHi b hb 1]
theorem same_hd (a g s b : Int) (ha : (Lit.int .i64 a).wf = true) (hg : (Lit.int .u32 g).wf = true) (hs : (Lit.int .u32 s).wf = true) (hb : (Lit.int .i64 b).wf = true) (w : World) :
    (Op.equalIn 10000 80 (.agg #[.int .i64 a, .int .u32 g, .int .u32 s, .int .i64 b]) (.agg #[.int .i64 a, .int .u32 g, .int .u32 s, .int .i64 b])).run Tryz.prog w = .ok true w := by
  obtain ⟨r, h1, h2⟩ := run_equalIn_deep 9997 3 80 key_hd w 3 3 (.agg #[.int .i64 a, .int .u32 g, .int .u32 s, .int .i64 b]) (.agg #[.int .i64 a, .int .u32 g, .int .u32 s, .int .i64 b]) _ _ (by kernel_rfl) (by kernel_rfl) (lits_hd a g s b ha hg hs hb) (lits_hd a g s b ha hg hs hb)
  rw [h1, h2.2 rfl]
theorem one_bytes : ((B (headerL 1 2 65538 7)).extract 0 4).toList = [87, 83, 0, 1] := by decide +kernel
end Go.Proofs.YtgogackkeodciabGreatDoor.W
end

/- What headers and bytes tell, of any: package header beside its definition; the small case of layer 11. Headers held against one another; the small case that each law of layer 11 asks. -/
import Derived.Test.YtbbhnbdekblghaaGreatDoorHdEnc
import Derived.Test.YtbbhnbdekblghaaGreatDoorHdRef
section
namespace Go.Proofs.YtbbhnbdekblghaaGreatDoor.M
open Go.RowKit
open Go.Proofs.YtbbhnbdekblghaaGreatDoor.D
set_option linter.unusedVariables false

/-- The numbers of the first 32 bytes are those of the bytes. -/
theorem ext_ext (s : ByteArray) (i j : Nat) (h : j ≤ 32) : ((s.extract 0 32).extract i j).data.toList = (s.extract i j).data.toList := by
  rw [ext_list, ext_list, ext_list, List.drop_zero, List.drop_take, List.take_take]
  congr 1
  omega
theorem numH_first (s : ByteArray) : numH (s.extract 0 32) 0 = logH s ∧ numH (s.extract 0 32) 1 = genH s ∧ numH (s.extract 0 32) 2 = stH s ∧ numH (s.extract 0 32) 3 = baseH s := by
  unfold numH logH genH stH baseH
  refine ⟨?_, ?_, ?_, ?_⟩ <;> exact congrArg rd (ext_ext s _ _ (by decide))
end Go.Proofs.YtbbhnbdekblghaaGreatDoor.M
namespace Go.Proofs.YtbbhnbdekblghaaGreatDoor.W
open Go.RowKit
open Go.Proofs.YtbbhnbdekblghaaGreatDoor.M Go.Proofs.YtbbhnbdekblghaaGreatDoor.D Go.Proofs.YtbbhnbdekblghaaGreatDoor.Z
set_option linter.unusedVariables false

theorem wrap_small (d : Nat) (h : d ≤ 1099511627776) : wrap64 (d : Int) = d := IntWalk.wrap64_in _ (by omega)
theorem decH_isH (s : ByteArray) (w : World) (hT : Wide w) (hs : 32 ≤ s.size) (h : isH s) :
    Calls Tryz.prog 142 #[.string s] w fun x w' => x = .returned (.tuple #[.agg #[.int .i64 (logH s : Nat), .int .u32 (genH s : Nat), .int .u32 (stH s : Nat), .int .i64 (baseH s : Nat)], .int .i64 0]) ∧ Below w.heap.size w w' := by
  obtain ⟨h0, h1, h2⟩ := h
  obtain ⟨n0, n1, n2, n3⟩ := numH_first s
  have l0 := logH_lt s
  have e := decH_yes s (s.extract 0 32) w hT hs rfl
  rw [n0, n1, n2, n3, wrap_small _ h1] at e
  exact e (by unfold okH; simp; omega) (by rw [h2, B_data])
theorem decH_notH (s : ByteArray) (w : World) (hT : Wide w) (hs : 32 ≤ s.size) (h : ¬ isH s) :
    Calls Tryz.prog 142 #[.string s] w fun x w' => x = .returned (.tuple #[.agg #[.int .i64 0, .int .u32 0, .int .u32 0, .int .i64 0], .int .i64 4]) ∧ Below w.heap.size w w' := by
  obtain ⟨n0, n1, n2, n3⟩ := numH_first s
  have l0 := logH_lt s
  have l3 := baseH_lt s
  cases hk : okH (logH s : Nat) (wrap64 (baseH s : Nat)) with
  | false =>
    have e := decH_may s (s.extract 0 32) w hT hs rfl
    rw [n0, n3] at e
    exact e hk
  | true =>
    have e := decH_data s (s.extract 0 32) w hT hs rfl
    rw [n0, n1, n2, n3] at e
    refine e hk (fun h2 => h ?_)
    unfold okH at hk
    simp at hk
    have hb : baseH s ≤ 1099511627776 := by
      unfold wrap64 at hk
      omega
    refine ⟨by omega, hb, ?_⟩
    rw [← h2, B_of]
/-- Decode of Encode, whatever stands behind. -/
theorem decH_of (a g s b : Nat) (m : ByteArray) (w : World) (hT : Wide w) (h0 : 1 ≤ a) (h1 : a < 65536) (h2 : g < 4294967296) (h3 : s < 4294967296) (h4 : b ≤ 1099511627776) :
    Calls Tryz.prog 142 #[.string (B (headerL a g s b) ++ m)] w fun x w' => x = .returned (.tuple #[.agg #[.int .i64 (a : Int), .int .u32 (g : Int), .int .u32 (s : Int), .int .i64 (b : Int)], .int .i64 0]) ∧ Below w.heap.size w w' := by
  have hiH := isH_header a g s b m h0 h1 h2 h3 h4
  obtain ⟨n0, n1, n2, n3, _⟩ := open_header a g s b m h1 h2 h3 (by omega)
  have hTz : (B (headerL a g s b)).size = 32 := by rw [B_size, headerL_len]
  have hde := decH_isH (B (headerL a g s b) ++ m) w hT (by rw [ByteArray.size_append, hTz]; omega) hiH
  rw [n0, n1, n2, n3] at hde
  exact hde
end Go.Proofs.YtbbhnbdekblghaaGreatDoor.W
end
section
namespace Go.Proofs.YtbbhnbdekblghaaGreatDoor.W
open Go.RowKit Go.Sort
open Go.Proofs.YtbbhnbdekblghaaGreatDoor.M Go.Proofs.YtbbhnbdekblghaaGreatDoor.D Go.Proofs.YtbbhnbdekblghaaGreatDoor.Z
set_option linter.unusedVariables false

theorem key_hd : Tryz.prog.keyTypeAt 3 79 = true := by kernel_rfl
theorem cHu : Tryz.prog.cellsOf 55 = 1 := by kernel_rfl
theorem cHi : Tryz.prog.cellsOf 3 = 1 := by kernel_rfl
theorem cHd : Tryz.prog.cellsOf 79 = 4 := by kernel_rfl
theorem litHu (a : Int) (h : (Lit.int .u32 a).wf = true) (d : Nat) : Tryz.prog.keyLits (d + 1) 55 [.int .u32 a] = some [.int .u32 a] := by
  unfold Program.keyLits
  rw [Tryz.underlying55]
  simp [h]
theorem litHi (a : Int) (h : (Lit.int .i64 a).wf = true) (d : Nat) : Tryz.prog.keyLits (d + 1) 3 [.int .i64 a] = some [.int .i64 a] := by
  unfold Program.keyLits
  rw [Tryz.underlying3]
  simp [h]
theorem lits_hd (a g s b : Int) (ha : (Lit.int .i64 a).wf = true) (hg : (Lit.int .u32 g).wf = true) (hs : (Lit.int .u32 s).wf = true) (hb : (Lit.int .i64 b).wf = true) : Tryz.prog.keyLits 3 79 (hdr a g s b) = some [.int .i64 a, .int .u32 g, .int .u32 s, .int .i64 b] := by
  unfold Program.keyLits
  rw [Tryz.underlying79]
  simp [cHd, cHu, cHi, litHi a ha 1, litHu g hg 1, litHu s hs 1, litHi b hb 1]
theorem same_hd (a g s b : Int) (ha : (Lit.int .i64 a).wf = true) (hg : (Lit.int .u32 g).wf = true) (hs : (Lit.int .u32 s).wf = true) (hb : (Lit.int .i64 b).wf = true) (w : World) :
    (Op.equalIn 10000 79 (.agg #[.int .i64 a, .int .u32 g, .int .u32 s, .int .i64 b]) (.agg #[.int .i64 a, .int .u32 g, .int .u32 s, .int .i64 b])).run Tryz.prog w = .ok true w := by
  obtain ⟨r, h1, h2⟩ := run_equalIn_deep 9997 3 79 key_hd w 3 3 (.agg #[.int .i64 a, .int .u32 g, .int .u32 s, .int .i64 b]) (.agg #[.int .i64 a, .int .u32 g, .int .u32 s, .int .i64 b]) _ _ (by kernel_rfl) (by kernel_rfl) (lits_hd a g s b ha hg hs hb) (lits_hd a g s b ha hg hs hb)
  rw [h1, h2.2 rfl]
theorem one_bytes : ((B (headerL 1 2 65538 7)).extract 0 4).toList = [87, 83, 0, 1] := by decide +kernel
end Go.Proofs.YtbbhnbdekblghaaGreatDoor.W
end

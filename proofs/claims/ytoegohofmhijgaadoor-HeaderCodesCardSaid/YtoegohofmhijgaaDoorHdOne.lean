/- Headers held against one another; the small case that each law of layer 11 asks. -/
import Derived.Test.YtoegohofmhijgaaDoorHdAll
namespace Go.Proofs.YtoegohofmhijgaaDoor.W
open Go.RowKit Go.Sort
open Go.Proofs.YtoegohofmhijgaaDoor.M Go.Proofs.YtoegohofmhijgaaDoor.D Go.Proofs.YtoegohofmhijgaaDoor.Z
set_option linter.unusedVariables false

theorem key_hd : Tryd.prog.keyTypeAt 3 24 = true := by kernel_rfl
theorem key_rhd : Tryd.prog.keyTypeAt 3 29 = true := by kernel_rfl
theorem cHu : Tryd.prog.cellsOf 22 = 1 := by kernel_rfl
theorem cHi : Tryd.prog.cellsOf 3 = 1 := by kernel_rfl
theorem cHd : Tryd.prog.cellsOf 24 = 4 := by kernel_rfl
theorem cHr : Tryd.prog.cellsOf 29 = 4 := by kernel_rfl
theorem litHu (a : Int) (h : (Lit.int .u32 a).wf = true) (d : Nat) : Tryd.prog.keyLits (d + 1) 22 [.int .u32 a] = some [.int .u32 a] := by
  unfold Program.keyLits
  rw [Tryd.underlying22]
  simp [h]
theorem litHi (a : Int) (h : (Lit.int .i64 a).wf = true) (d : Nat) : Tryd.prog.keyLits (d + 1) 3 [.int .i64 a] = some [.int .i64 a] := by
  unfold Program.keyLits
  rw [Tryd.underlying3]
  simp [h]
theorem lits_hd (a g s b : Int) (ha : (Lit.int .i64 a).wf = true) (hg : (Lit.int .u32 g).wf = true) (hs : (Lit.int .u32 s).wf = true) (hb : (Lit.int .i64 b).wf = true) : Tryd.prog.keyLits 3 24 (hdr a g s b) = some [.int .i64 a, .int .u32 g, .int .u32 s, .int .i64 b] := by
  unfold Program.keyLits
  rw [Tryd.underlying24]
  simp [cHd, cHu, cHi, litHi a ha 1, litHu g hg 1, litHu s hs 1, litHi b hb 1]
theorem lits_rhd (a g s b : Int) (ha : (Lit.int .i64 a).wf = true) (hg : (Lit.int .u32 g).wf = true) (hs : (Lit.int .u32 s).wf = true) (hb : (Lit.int .i64 b).wf = true) : Tryd.prog.keyLits 3 29 (hdr a g s b) = some [.int .i64 a, .int .u32 g, .int .u32 s, .int .i64 b] := by
  unfold Program.keyLits
  rw [Tryd.underlying29]
  simp [cHr, cHu, cHi, litHi a ha 1, litHu g hg 1, litHu s hs 1, litHi b hb 1]
theorem same_hd (a g s b : Int) (ha : (Lit.int .i64 a).wf = true) (hg : (Lit.int .u32 g).wf = true) (hs : (Lit.int .u32 s).wf = true) (hb : (Lit.int .i64 b).wf = true) (w : World) :
    (Op.equalIn 10000 24 (.agg #[.int .i64 a, .int .u32 g, .int .u32 s, .int .i64 b]) (.agg #[.int .i64 a, .int .u32 g, .int .u32 s, .int .i64 b])).run Tryd.prog w = .ok true w := by
  obtain ⟨r, h1, h2⟩ := run_equalIn_deep 9997 3 24 key_hd w 3 3 (.agg #[.int .i64 a, .int .u32 g, .int .u32 s, .int .i64 b]) (.agg #[.int .i64 a, .int .u32 g, .int .u32 s, .int .i64 b]) _ _ (by kernel_rfl) (by kernel_rfl) (lits_hd a g s b ha hg hs hb) (lits_hd a g s b ha hg hs hb)
  rw [h1, h2.2 rfl]
theorem same_rhd (a g s b : Int) (ha : (Lit.int .i64 a).wf = true) (hg : (Lit.int .u32 g).wf = true) (hs : (Lit.int .u32 s).wf = true) (hb : (Lit.int .i64 b).wf = true) (w : World) :
    (Op.equalIn 10000 29 (.agg #[.int .i64 a, .int .u32 g, .int .u32 s, .int .i64 b]) (.agg #[.int .i64 a, .int .u32 g, .int .u32 s, .int .i64 b])).run Tryd.prog w = .ok true w := by
  obtain ⟨r, h1, h2⟩ := run_equalIn_deep 9997 3 29 key_rhd w 3 3 (.agg #[.int .i64 a, .int .u32 g, .int .u32 s, .int .i64 b]) (.agg #[.int .i64 a, .int .u32 g, .int .u32 s, .int .i64 b]) _ _ (by kernel_rfl) (by kernel_rfl) (lits_rhd a g s b ha hg hs hb) (lits_rhd a g s b ha hg hs hb)
  rw [h1, h2.2 rfl]
theorem one_bytes : ((B (headerL 1 2 65538 7)).extract 0 4).toList = [87, 83, 0, 1] := by decide +kernel
set_option maxRecDepth 100000 in
set_option maxHeartbeats 4000000 in
theorem one_any (w : World) (hT : Wide w) :
    Calls Tryd.prog 7 #[] w fun e w' => e = .returned (.bool true) ∧ Below w.heap.size w w' := by
  have hen : ∀ W : World, Wide W → Calls Tryd.prog 11 #[.agg #[.int .i64 1, .int .u32 2, .int .u32 65538, .int .i64 7]] W fun x w' => x = .returned (.tuple #[.string (B (headerL 1 2 65538 7)), .int .i64 0]) ∧ Below W.heap.size W w' := fun W hW => encH_yes 1 2 65538 7 W hW (by decide) (by decide) (by decide) (by decide) (by decide)
  have hde := fun W hW => decH_of 1 2 65538 7 ⟨#[109, 111, 114, 101]⟩ W hW (by decide) (by decide) (by decide) (by decide) (by decide)
  have hTz : (B (headerL 1 2 65538 7)).size = 32 := by rw [B_size, headerL_len]
  have hTx := one_bytes
  obtain ⟨T, hTT⟩ : ∃ T, Hid (B (headerL 1 2 65538 7) = T) := ⟨_, Lib.hid rfl⟩
  rw [hTT.out] at hen hde hTz hTx
  replace hde : ∀ W : World, Wide W → Calls Tryd.prog 8 #[.string (T ++ ⟨#[109, 111, 114, 101]⟩)] W fun x w' => x = .returned (.tuple #[.agg #[.int .i64 1, .int .u32 2, .int .u32 65538, .int .i64 7], .int .i64 0]) ∧ Below W.heap.size W w' := fun W hW => hde W hW
  have hst : ∀ W : World, Calls Tryd.prog 15 #[.int .i64 1, .int .i64 2] W fun x w' => x = .returned (.tuple #[.int .u32 65538, .int .i64 0]) ∧ W = w' := fun W => stamp_yes 1 2 W (by decide) (by decide)
  have hsm : ∀ W : World, (Op.equalIn 10000 24 (.agg #[.int .i64 1, .int .u32 2, .int .u32 65538, .int .i64 7]) (.agg #[.int .i64 1, .int .u32 2, .int .u32 65538, .int .i64 7])).run Tryd.prog W = .ok true W := fun W => same_hd 1 2 65538 7 (by kernel_rfl) (by kernel_rfl) (by kernel_rfl) (by kernel_rfl) W
  clear hTT
  replace hen := Lib.hid hen
  replace hde := Lib.hid hde
  replace hst := Lib.hid hst
  replace hT := Lib.hid hT
  go_enter Tryd.func7, Tryd.ntmps7
  go_wp2_with fail
  have hA := Whole.new w 24 (hdr 1 2 65538 7)
  have hB := (Below.refl w.heap.size w).alloc (Nat.le_refl _) (.cells (hdr 1 2 65538 7).toArray 24)
  refine (hen.out _ (hT.out.below hB)).mono ?_
  rintro ee w1 ⟨rfl, hb1⟩
  replace hA := hA.below hb1 hA.lt
  replace hB := grew hB hb1
  clear hb1
  go_wp2_with fail
  refine (hde.out _ (hT.out.below hB)).mono ?_
  rintro ee w2 ⟨rfl, hb2⟩
  replace hA := (hA.below hb2 hA.lt).alloc (.cells (hdr 1 2 65538 7).toArray 24)
  replace hB := Lib.hid (grewAlloc (grew hB hb2) (.cells (hdr 1 2 65538 7).toArray 24))
  have hX := Whole.new w2 24 (hdr 1 2 65538 7)
  clear hb2
  go_wp2_with fail
  refine (hst.out _).mono ?_
  rintro ee w3 ⟨rfl, rfl⟩
  have a0 := hA.cell 0
  have a1 := hA.cell 1
  have a2 := hA.cell 2
  have a3 := hA.cell 3
  simp only [List.getElem?_cons_zero, List.getElem?_cons_succ] at a0 a1 a2 a3
  clear hA hX
  go_wp2_with fail
  go_ret
  exact ⟨rfl, hB.out⟩
end Go.Proofs.YtoegohofmhijgaaDoor.W

/- Sealed sectors that come in, opened. -/
import Derived.Test.YtkmlmondhmpkkaaProg
import Derived.Test.YtkmlmondhmpkkaaOpenBytes
namespace Go.Proofs.Ytkmlmondhmpkkaa.M
open Go.ChangeShapes Go.WideShapes Go.ChangeAt Go.RowKit
open Go.Proofs.Ytkmlmondhmpkkaa.D
set_option linter.unusedVariables false
theorem cellsSealed : Try.prog.cellsOf 25 = 54 := by kernel_rfl
theorem cellsS22 : Try.prog.cellsOf 22 = 1 := by kernel_rfl
theorem cellsS3 : Try.prog.cellsOf 3 = 1 := by kernel_rfl
theorem cellsS5 : Try.prog.cellsOf 5 = 1 := by kernel_rfl
theorem cellsS52 : Try.prog.cellsOf 23 = 52 := by kernel_rfl
/-- The cells of a sealed sector. -/
def sealedV (st c : Int) (d : List UInt8) : List Value := .int .u32 st :: .int .i64 c :: bytesV d
theorem sealedV_len (st c : Int) (d : List UInt8) : (sealedV st c d).length = 2 + d.length := by simp [sealedV, bytesV_len]; omega
section
variable {H : Type} {enc : TypeId × Value → H} {w : World} {base : Nat} {held : Bool}
set_option maxRecDepth 100000 in
theorem open_sealed {b0 : Nat} {v : Value} {d : DataW H} {p : List MemPlace} (hval : Value.okWide Try.prog w .any b0 25 v) (h : DataW.Trod enc Try.prog w base (fun _ => true) held 25 v d p) :
    ∃ st c dl, v = .agg (sealedV st c dl).toArray ∧ (Lit.int .u32 st).wf = true ∧ (Lit.int .i64 c).wf = true ∧ dl.length = 52 := by
  obtain ⟨cs, rfl, hsz⟩ := okWide_struct Try.underlying25 hval
  obtain ⟨l⟩ := cs
  rw [cellsSealed] at hsz
  match l, hsz with
  | c0 :: c1 :: rest, hsz =>
    obtain ⟨fuel, hf⟩ := h
    obtain ⟨xs, n, _, _, _, hlen, hg⟩ := DataW.trod_struct Try.underlying25 hf
    match xs, hlen with
    | [y0, y1, y2], _ =>
      have hr : rest.length = 52 := by simpa using hsz
      have h0 : DataW.trod enc Try.prog w base (fun _ => true) held n 22 (((c0 :: c1 :: rest : List Value).drop 0).take (Try.prog.cellsOf 22)) = some y0 := hg 0 _ rfl
      have h1 : DataW.trod enc Try.prog w base (fun _ => true) held n 3 (((c0 :: c1 :: rest : List Value).drop 1).take (Try.prog.cellsOf 3)) = some y1 := hg 1 _ rfl
      have h2 : DataW.trod enc Try.prog w base (fun _ => true) held n 23 (((c0 :: c1 :: rest : List Value).drop 2).take (Try.prog.cellsOf 23)) = some y2 := hg 2 _ rfl
      rw [cellsS22] at h0
      rw [cellsS3] at h1
      rw [cellsS52, show ((c0 :: c1 :: rest : List Value).drop 2) = rest from rfl, List.take_of_length_le (by omega)] at h2
      obtain ⟨x0, e0, _, w0⟩ := DataW.trod_int Try.underlying22 (show DataW.trod enc Try.prog w base (fun _ => true) held n 22 [c0] = some y0 from h0)
      obtain ⟨x1, e1, _, w1⟩ := DataW.trod_int Try.underlying3 (show DataW.trod enc Try.prog w base (fun _ => true) held n 3 [c1] = some y1 from h1)
      simp only [List.cons.injEq, and_true] at e0 e1
      subst e0 e1
      obtain ⟨dl, l2, e2⟩ := open_bytes Try.underlying23 Try.underlying5 cellsS5 cellsS52 h2
      exact ⟨x0, x1, dl, by rw [e2]; rfl, w0, w1, l2⟩
end
end Go.Proofs.Ytkmlmondhmpkkaa.M

/- A pair that comes in, opened (layer 25). -/
import Derived.Test.YtgogackkeodciaaRlA
import Derived.Deep.Slices
import Derived.OpenShut
import Derived.ShutString
import Derived.Deep.DeepHandedRow
namespace Go.Proofs.Ytgogackkeodciaa.W
open Go.ChangeShapes Go.WideShapes Go.ChangeAt Go.RowKit Go.Sort
open Go.Proofs.Ytgogackkeodciaa.M Go.Proofs.Ytgogackkeodciaa.D Go.Proofs.Ytgogackkeodciaa.Z
set_option linter.unusedVariables false
set_option linter.unusedSimpArgs false

theorem cellsS25p : Try.prog.cellsOf 9 = 1 := by kernel_rfl
theorem cellsI25p : Try.prog.cellsOf 3 = 1 := by kernel_rfl
theorem cellsB25p : Try.prog.cellsOf 4 = 1 := by kernel_rfl
theorem cells_pr25p : Try.prog.cellsOf 62 = 3 := by kernel_rfl
section
variable {H : Type} {enc : TypeId × Value → H} {w : World} {base : Nat} {held : Bool}
set_option maxRecDepth 100000 in
theorem pr25p_of {fuel : Nat} {cs : List Value} {x : DataW H × List MemPlace} (hl : cs.length = 3) (hf : DataW.trod enc Try.prog w base (fun _ => true) held fuel 62 cs = some x) : ∃ (z0 : ByteArray) (z1 : ByteArray) (z2 : Bool), cs = [.string z0, .string z1, .bool z2] ∧ z0.size ≤ maxLen ∧ z1.size ≤ maxLen := by
  match cs, hl with
  | [c0, c1, c2], _ =>
    obtain ⟨xs, n, _, _, _, hlen, hg⟩ := DataW.trod_struct Try.underlying62 hf
    match xs, hlen with
    | [y0, y1, y2], _ =>
      have h0 : DataW.trod enc Try.prog w base (fun _ => true) held n 9 ((([c0, c1, c2] : List Value).drop 0).take (Try.prog.cellsOf 9)) = some y0 := hg 0 _ rfl
      rw [cellsS25p] at h0
      obtain ⟨x0, e0, _, w0⟩ := DataW.trod_string Try.underlying9 (show DataW.trod enc Try.prog w base (fun _ => true) held n 9 [c0] = some y0 from h0)
      have h1 : DataW.trod enc Try.prog w base (fun _ => true) held n 9 ((([c0, c1, c2] : List Value).drop 1).take (Try.prog.cellsOf 9)) = some y1 := hg 1 _ rfl
      rw [cellsS25p] at h1
      obtain ⟨x1, e1, _, w1⟩ := DataW.trod_string Try.underlying9 (show DataW.trod enc Try.prog w base (fun _ => true) held n 9 [c1] = some y1 from h1)
      have h2 : DataW.trod enc Try.prog w base (fun _ => true) held n 4 ((([c0, c1, c2] : List Value).drop 2).take (Try.prog.cellsOf 4)) = some y2 := hg 2 _ rfl
      rw [cellsB25p] at h2
      obtain ⟨x2, e2, _⟩ := DataW.trod_bool Try.underlying4 (show DataW.trod enc Try.prog w base (fun _ => true) held n 4 [c2] = some y2 from h2)
      simp only [List.cons.injEq, and_true] at e0 e1 e2
      subst e0 e1 e2
      exact ⟨x0, x1, x2, rfl, w0, w1⟩
set_option maxRecDepth 100000 in
theorem open_pair25 {b0 : Nat} {v : Value} {d : DataW H} {p : List MemPlace} (hval : Value.okWide Try.prog w .any b0 62 v) (h : DataW.Trod enc Try.prog w base (fun _ => true) held 62 v d p) :
    ∃ (z0 : ByteArray) (z1 : ByteArray) (z2 : Bool), v = .agg #[.string z0, .string z1, .bool z2] ∧ z0.size ≤ maxLen ∧ z1.size ≤ maxLen := by
  obtain ⟨cs, rfl, hsz⟩ := okWide_struct Try.underlying62 hval
  obtain ⟨l⟩ := cs
  rw [cells_pr25p] at hsz
  obtain ⟨fuel, hf⟩ := h
  obtain ⟨z0, z1, z2, hl, hw⟩ := pr25p_of (fuel := fuel) (cs := l) (by simpa using hsz) hf
  exact ⟨z0, z1, z2, by rw [hl], hw⟩
end
end Go.Proofs.Ytgogackkeodciaa.W

/- The acts of layer 24's law that come in, opened. -/
import Derived.Test.YtgogackkeodciaaOfA
import Derived.Deep.Slices
import Derived.OpenShut
import Derived.ShutString
import Derived.Deep.DeepHandedRow
namespace Go.Proofs.Ytgogackkeodciaa.W
open Go.ChangeShapes Go.WideShapes Go.ChangeAt Go.RowKit Go.Sort
open Go.Proofs.Ytgogackkeodciaa.M Go.Proofs.Ytgogackkeodciaa.D Go.Proofs.Ytgogackkeodciaa.Z
set_option linter.unusedVariables false
set_option linter.unusedSimpArgs false

theorem cellsS24a : Try.prog.cellsOf 9 = 1 := by kernel_rfl
theorem cellsI24a : Try.prog.cellsOf 3 = 1 := by kernel_rfl
theorem cellsB24a : Try.prog.cellsOf 4 = 1 := by kernel_rfl
theorem cells_pl24a : Try.prog.cellsOf 24 = 2 := by kernel_rfl
theorem cells_ky24a : Try.prog.cellsOf 26 = 3 := by kernel_rfl
theorem cells_fr24a : Try.prog.cellsOf 33 = 2 := by kernel_rfl
theorem cells_ac24a : Try.prog.cellsOf 35 = 7 := by kernel_rfl
section
variable {H : Type} {enc : TypeId × Value → H} {w : World} {base : Nat} {held : Bool}
set_option maxRecDepth 100000 in
theorem pl24a_of {fuel : Nat} {cs : List Value} {x : DataW H × List MemPlace} (hl : cs.length = 2) (hf : DataW.trod enc Try.prog w base (fun _ => true) held fuel 24 cs = some x) : ∃ (z0 : ByteArray) (z1 : Int), cs = [.string z0, .int .i64 z1] ∧ z0.size ≤ maxLen ∧ (Lit.int .i64 z1).wf = true := by
  match cs, hl with
  | [c0, c1], _ =>
    obtain ⟨xs, n, _, _, _, hlen, hg⟩ := DataW.trod_struct Try.underlying24 hf
    match xs, hlen with
    | [y0, y1], _ =>
      have h0 : DataW.trod enc Try.prog w base (fun _ => true) held n 9 ((([c0, c1] : List Value).drop 0).take (Try.prog.cellsOf 9)) = some y0 := hg 0 _ rfl
      rw [cellsS24a] at h0
      obtain ⟨x0, e0, _, w0⟩ := DataW.trod_string Try.underlying9 (show DataW.trod enc Try.prog w base (fun _ => true) held n 9 [c0] = some y0 from h0)
      have h1 : DataW.trod enc Try.prog w base (fun _ => true) held n 3 ((([c0, c1] : List Value).drop 1).take (Try.prog.cellsOf 3)) = some y1 := hg 1 _ rfl
      rw [cellsI24a] at h1
      obtain ⟨x1, e1, _, w1⟩ := DataW.trod_int Try.underlying3 (show DataW.trod enc Try.prog w base (fun _ => true) held n 3 [c1] = some y1 from h1)
      simp only [List.cons.injEq, and_true] at e0 e1
      subst e0 e1
      exact ⟨x0, x1, rfl, w0, w1⟩
set_option maxRecDepth 100000 in
theorem ky24a_of {fuel : Nat} {cs : List Value} {x : DataW H × List MemPlace} (hl : cs.length = 3) (hf : DataW.trod enc Try.prog w base (fun _ => true) held fuel 26 cs = some x) : ∃ (z0 : ByteArray) (z1 : ByteArray) (z2 : Int), cs = [.string z0, .string z1, .int .i64 z2] ∧ z0.size ≤ maxLen ∧ z1.size ≤ maxLen ∧ (Lit.int .i64 z2).wf = true := by
  match cs, hl with
  | [c0, c1, c2], _ =>
    obtain ⟨xs, n, _, _, _, hlen, hg⟩ := DataW.trod_struct Try.underlying26 hf
    match xs, hlen with
    | [y0, y1], _ =>
      have h0 : DataW.trod enc Try.prog w base (fun _ => true) held n 9 ((([c0, c1, c2] : List Value).drop 0).take (Try.prog.cellsOf 9)) = some y0 := hg 0 _ rfl
      rw [cellsS24a] at h0
      obtain ⟨x0, e0, _, w0⟩ := DataW.trod_string Try.underlying9 (show DataW.trod enc Try.prog w base (fun _ => true) held n 9 [c0] = some y0 from h0)
      have h1 : DataW.trod enc Try.prog w base (fun _ => true) held n 24 ((([c0, c1, c2] : List Value).drop 1).take (Try.prog.cellsOf 24)) = some y1 := hg 1 _ rfl
      rw [cells_pl24a] at h1
      obtain ⟨x1_0, x1_1, e1, w1_0, w1_1⟩ := pl24a_of (cs := [c1, c2]) rfl h1
      simp only [List.cons.injEq, and_true] at e0 e1
      obtain ⟨rfl, rfl⟩ := e1
      subst e0
      exact ⟨x0, x1_0, x1_1, rfl, w0, w1_0, w1_1⟩
set_option maxRecDepth 100000 in
theorem fr24a_of {fuel : Nat} {cs : List Value} {x : DataW H × List MemPlace} (hl : cs.length = 2) (hf : DataW.trod enc Try.prog w base (fun _ => true) held fuel 33 cs = some x) : ∃ (z0 : Int) (z1 : ByteArray), cs = [.int .i64 z0, .string z1] ∧ (Lit.int .i64 z0).wf = true ∧ z1.size ≤ maxLen := by
  match cs, hl with
  | [c0, c1], _ =>
    obtain ⟨xs, n, _, _, _, hlen, hg⟩ := DataW.trod_struct Try.underlying33 hf
    match xs, hlen with
    | [y0, y1], _ =>
      have h0 : DataW.trod enc Try.prog w base (fun _ => true) held n 3 ((([c0, c1] : List Value).drop 0).take (Try.prog.cellsOf 3)) = some y0 := hg 0 _ rfl
      rw [cellsI24a] at h0
      obtain ⟨x0, e0, _, w0⟩ := DataW.trod_int Try.underlying3 (show DataW.trod enc Try.prog w base (fun _ => true) held n 3 [c0] = some y0 from h0)
      have h1 : DataW.trod enc Try.prog w base (fun _ => true) held n 9 ((([c0, c1] : List Value).drop 1).take (Try.prog.cellsOf 9)) = some y1 := hg 1 _ rfl
      rw [cellsS24a] at h1
      obtain ⟨x1, e1, _, w1⟩ := DataW.trod_string Try.underlying9 (show DataW.trod enc Try.prog w base (fun _ => true) held n 9 [c1] = some y1 from h1)
      simp only [List.cons.injEq, and_true] at e0 e1
      subst e0 e1
      exact ⟨x0, x1, rfl, w0, w1⟩
set_option maxRecDepth 100000 in
theorem ac24a_of {fuel : Nat} {cs : List Value} {x : DataW H × List MemPlace} (hl : cs.length = 7) (hf : DataW.trod enc Try.prog w base (fun _ => true) held fuel 35 cs = some x) : ∃ (z0 : Int) (z1 : Int) (z2 : ByteArray) (z3 : ByteArray) (z4 : Int) (z5 : Int) (z6 : ByteArray), cs = [.int .i64 z0, .int .i64 z1, .string z2, .string z3, .int .i64 z4, .int .i64 z5, .string z6] ∧ (Lit.int .i64 z0).wf = true ∧ (Lit.int .i64 z1).wf = true ∧ z2.size ≤ maxLen ∧ z3.size ≤ maxLen ∧ (Lit.int .i64 z4).wf = true ∧ (Lit.int .i64 z5).wf = true ∧ z6.size ≤ maxLen := by
  match cs, hl with
  | [c0, c1, c2, c3, c4, c5, c6], _ =>
    obtain ⟨xs, n, _, _, _, hlen, hg⟩ := DataW.trod_struct Try.underlying35 hf
    match xs, hlen with
    | [y0, y1, y2, y3], _ =>
      have h0 : DataW.trod enc Try.prog w base (fun _ => true) held n 3 ((([c0, c1, c2, c3, c4, c5, c6] : List Value).drop 0).take (Try.prog.cellsOf 3)) = some y0 := hg 0 _ rfl
      rw [cellsI24a] at h0
      obtain ⟨x0, e0, _, w0⟩ := DataW.trod_int Try.underlying3 (show DataW.trod enc Try.prog w base (fun _ => true) held n 3 [c0] = some y0 from h0)
      have h1 : DataW.trod enc Try.prog w base (fun _ => true) held n 3 ((([c0, c1, c2, c3, c4, c5, c6] : List Value).drop 1).take (Try.prog.cellsOf 3)) = some y1 := hg 1 _ rfl
      rw [cellsI24a] at h1
      obtain ⟨x1, e1, _, w1⟩ := DataW.trod_int Try.underlying3 (show DataW.trod enc Try.prog w base (fun _ => true) held n 3 [c1] = some y1 from h1)
      have h2 : DataW.trod enc Try.prog w base (fun _ => true) held n 26 ((([c0, c1, c2, c3, c4, c5, c6] : List Value).drop 2).take (Try.prog.cellsOf 26)) = some y2 := hg 2 _ rfl
      rw [cells_ky24a] at h2
      obtain ⟨x2_0, x2_1, x2_2, e2, w2_0, w2_1, w2_2⟩ := ky24a_of (cs := [c2, c3, c4]) rfl h2
      have h3 : DataW.trod enc Try.prog w base (fun _ => true) held n 33 ((([c0, c1, c2, c3, c4, c5, c6] : List Value).drop 5).take (Try.prog.cellsOf 33)) = some y3 := hg 3 _ rfl
      rw [cells_fr24a] at h3
      obtain ⟨x3_0, x3_1, e3, w3_0, w3_1⟩ := fr24a_of (cs := [c5, c6]) rfl h3
      simp only [List.cons.injEq, and_true] at e0 e1 e2 e3
      obtain ⟨rfl, rfl, rfl⟩ := e2
      obtain ⟨rfl, rfl⟩ := e3
      subst e0 e1
      exact ⟨x0, x1, x2_0, x2_1, x2_2, x3_0, x3_1, rfl, w0, w1, w2_0, w2_1, w2_2, w3_0, w3_1⟩
set_option maxRecDepth 100000 in
theorem open_a24 {b0 : Nat} {v : Value} {d : DataW H} {p : List MemPlace} (hval : Value.okWide Try.prog w .any b0 35 v) (h : DataW.Trod enc Try.prog w base (fun _ => true) held 35 v d p) :
    ∃ (z0 : Int) (z1 : Int) (z2 : ByteArray) (z3 : ByteArray) (z4 : Int) (z5 : Int) (z6 : ByteArray), v = .agg #[.int .i64 z0, .int .i64 z1, .string z2, .string z3, .int .i64 z4, .int .i64 z5, .string z6] ∧ (Lit.int .i64 z0).wf = true ∧ (Lit.int .i64 z1).wf = true ∧ z2.size ≤ maxLen ∧ z3.size ≤ maxLen ∧ (Lit.int .i64 z4).wf = true ∧ (Lit.int .i64 z5).wf = true ∧ z6.size ≤ maxLen := by
  obtain ⟨cs, rfl, hsz⟩ := okWide_struct Try.underlying35 hval
  obtain ⟨l⟩ := cs
  rw [cells_ac24a] at hsz
  obtain ⟨fuel, hf⟩ := h
  obtain ⟨z0, z1, z2, z3, z4, z5, z6, hl, hw⟩ := ac24a_of (fuel := fuel) (cs := l) (by simpa using hsz) hf
  exact ⟨z0, z1, z2, z3, z4, z5, z6, by rw [hl], hw⟩
end
end Go.Proofs.Ytgogackkeodciaa.W

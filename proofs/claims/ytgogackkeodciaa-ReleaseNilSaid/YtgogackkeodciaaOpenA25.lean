/- The acts of layer 25's law that come in, opened. -/
import Derived.Test.YtgogackkeodciaaRlA
import Derived.Deep.Slices
import Derived.OpenShut
import Derived.ShutString
import Derived.Deep.DeepHandedRow
namespace Go.Proofs.Ytgogackkeodciaa.W
open Go.ChangeShapes Go.WideShapes Go.ChangeAt Go.RowKit Go.Sort
open Go.Proofs.Ytgogackkeodciaa.M Go.Proofs.Ytgogackkeodciaa.D Go.Proofs.Ytgogackkeodciaa.Z
set_option linter.unusedVariables false
set_option linter.unusedSimpArgs false

theorem cellsS25a : Try.prog.cellsOf 9 = 1 := by kernel_rfl
theorem cellsI25a : Try.prog.cellsOf 3 = 1 := by kernel_rfl
theorem cellsB25a : Try.prog.cellsOf 4 = 1 := by kernel_rfl
theorem cells_pl25a : Try.prog.cellsOf 24 = 2 := by kernel_rfl
theorem cells_pr25a : Try.prog.cellsOf 62 = 3 := by kernel_rfl
theorem cells_fr25a : Try.prog.cellsOf 33 = 2 := by kernel_rfl
theorem cells_re25a : Try.prog.cellsOf 67 = 11 := by kernel_rfl
theorem cells_ac25a : Try.prog.cellsOf 69 = 15 := by kernel_rfl
section
variable {H : Type} {enc : TypeId × Value → H} {w : World} {base : Nat} {held : Bool}
set_option maxRecDepth 100000 in
theorem pl25a_of {fuel : Nat} {cs : List Value} {x : DataW H × List MemPlace} (hl : cs.length = 2) (hf : DataW.trod enc Try.prog w base (fun _ => true) held fuel 24 cs = some x) : ∃ (z0 : ByteArray) (z1 : Int), cs = [.string z0, .int .i64 z1] ∧ z0.size ≤ maxLen ∧ (Lit.int .i64 z1).wf = true := by
  match cs, hl with
  | [c0, c1], _ =>
    obtain ⟨xs, n, _, _, _, hlen, hg⟩ := DataW.trod_struct Try.underlying24 hf
    match xs, hlen with
    | [y0, y1], _ =>
      have h0 : DataW.trod enc Try.prog w base (fun _ => true) held n 9 ((([c0, c1] : List Value).drop 0).take (Try.prog.cellsOf 9)) = some y0 := hg 0 _ rfl
      rw [cellsS25a] at h0
      obtain ⟨x0, e0, _, w0⟩ := DataW.trod_string Try.underlying9 (show DataW.trod enc Try.prog w base (fun _ => true) held n 9 [c0] = some y0 from h0)
      have h1 : DataW.trod enc Try.prog w base (fun _ => true) held n 3 ((([c0, c1] : List Value).drop 1).take (Try.prog.cellsOf 3)) = some y1 := hg 1 _ rfl
      rw [cellsI25a] at h1
      obtain ⟨x1, e1, _, w1⟩ := DataW.trod_int Try.underlying3 (show DataW.trod enc Try.prog w base (fun _ => true) held n 3 [c1] = some y1 from h1)
      simp only [List.cons.injEq, and_true] at e0 e1
      subst e0 e1
      exact ⟨x0, x1, rfl, w0, w1⟩
set_option maxRecDepth 100000 in
theorem pr25a_of {fuel : Nat} {cs : List Value} {x : DataW H × List MemPlace} (hl : cs.length = 3) (hf : DataW.trod enc Try.prog w base (fun _ => true) held fuel 62 cs = some x) : ∃ (z0 : ByteArray) (z1 : ByteArray) (z2 : Bool), cs = [.string z0, .string z1, .bool z2] ∧ z0.size ≤ maxLen ∧ z1.size ≤ maxLen := by
  match cs, hl with
  | [c0, c1, c2], _ =>
    obtain ⟨xs, n, _, _, _, hlen, hg⟩ := DataW.trod_struct Try.underlying62 hf
    match xs, hlen with
    | [y0, y1, y2], _ =>
      have h0 : DataW.trod enc Try.prog w base (fun _ => true) held n 9 ((([c0, c1, c2] : List Value).drop 0).take (Try.prog.cellsOf 9)) = some y0 := hg 0 _ rfl
      rw [cellsS25a] at h0
      obtain ⟨x0, e0, _, w0⟩ := DataW.trod_string Try.underlying9 (show DataW.trod enc Try.prog w base (fun _ => true) held n 9 [c0] = some y0 from h0)
      have h1 : DataW.trod enc Try.prog w base (fun _ => true) held n 9 ((([c0, c1, c2] : List Value).drop 1).take (Try.prog.cellsOf 9)) = some y1 := hg 1 _ rfl
      rw [cellsS25a] at h1
      obtain ⟨x1, e1, _, w1⟩ := DataW.trod_string Try.underlying9 (show DataW.trod enc Try.prog w base (fun _ => true) held n 9 [c1] = some y1 from h1)
      have h2 : DataW.trod enc Try.prog w base (fun _ => true) held n 4 ((([c0, c1, c2] : List Value).drop 2).take (Try.prog.cellsOf 4)) = some y2 := hg 2 _ rfl
      rw [cellsB25a] at h2
      obtain ⟨x2, e2, _⟩ := DataW.trod_bool Try.underlying4 (show DataW.trod enc Try.prog w base (fun _ => true) held n 4 [c2] = some y2 from h2)
      simp only [List.cons.injEq, and_true] at e0 e1 e2
      subst e0 e1 e2
      exact ⟨x0, x1, x2, rfl, w0, w1⟩
set_option maxRecDepth 100000 in
theorem fr25a_of {fuel : Nat} {cs : List Value} {x : DataW H × List MemPlace} (hl : cs.length = 2) (hf : DataW.trod enc Try.prog w base (fun _ => true) held fuel 33 cs = some x) : ∃ (z0 : Int) (z1 : ByteArray), cs = [.int .i64 z0, .string z1] ∧ (Lit.int .i64 z0).wf = true ∧ z1.size ≤ maxLen := by
  match cs, hl with
  | [c0, c1], _ =>
    obtain ⟨xs, n, _, _, _, hlen, hg⟩ := DataW.trod_struct Try.underlying33 hf
    match xs, hlen with
    | [y0, y1], _ =>
      have h0 : DataW.trod enc Try.prog w base (fun _ => true) held n 3 ((([c0, c1] : List Value).drop 0).take (Try.prog.cellsOf 3)) = some y0 := hg 0 _ rfl
      rw [cellsI25a] at h0
      obtain ⟨x0, e0, _, w0⟩ := DataW.trod_int Try.underlying3 (show DataW.trod enc Try.prog w base (fun _ => true) held n 3 [c0] = some y0 from h0)
      have h1 : DataW.trod enc Try.prog w base (fun _ => true) held n 9 ((([c0, c1] : List Value).drop 1).take (Try.prog.cellsOf 9)) = some y1 := hg 1 _ rfl
      rw [cellsS25a] at h1
      obtain ⟨x1, e1, _, w1⟩ := DataW.trod_string Try.underlying9 (show DataW.trod enc Try.prog w base (fun _ => true) held n 9 [c1] = some y1 from h1)
      simp only [List.cons.injEq, and_true] at e0 e1
      subst e0 e1
      exact ⟨x0, x1, rfl, w0, w1⟩
set_option maxRecDepth 100000 in
theorem re25a_of {fuel : Nat} {cs : List Value} {x : DataW H × List MemPlace} (hl : cs.length = 11) (hf : DataW.trod enc Try.prog w base (fun _ => true) held fuel 67 cs = some x) : ∃ (z0 : Int) (z1 : Int) (z2 : Int) (z3 : ByteArray) (z4 : Int) (z5 : Int) (z6 : ByteArray) (z7 : Int) (z8 : ByteArray) (z9 : ByteArray) (z10 : Bool), cs = [.int .i64 z0, .int .i64 z1, .int .i64 z2, .string z3, .int .i64 z4, .int .i64 z5, .string z6, .int .i64 z7, .string z8, .string z9, .bool z10] ∧ (Lit.int .i64 z0).wf = true ∧ (Lit.int .i64 z1).wf = true ∧ (Lit.int .i64 z2).wf = true ∧ z3.size ≤ maxLen ∧ (Lit.int .i64 z4).wf = true ∧ (Lit.int .i64 z5).wf = true ∧ z6.size ≤ maxLen ∧ (Lit.int .i64 z7).wf = true ∧ z8.size ≤ maxLen ∧ z9.size ≤ maxLen := by
  match cs, hl with
  | [c0, c1, c2, c3, c4, c5, c6, c7, c8, c9, c10], _ =>
    obtain ⟨xs, n, _, _, _, hlen, hg⟩ := DataW.trod_struct Try.underlying67 hf
    match xs, hlen with
    | [y0, y1, y2, y3, y4, y5, y6], _ =>
      have h0 : DataW.trod enc Try.prog w base (fun _ => true) held n 3 ((([c0, c1, c2, c3, c4, c5, c6, c7, c8, c9, c10] : List Value).drop 0).take (Try.prog.cellsOf 3)) = some y0 := hg 0 _ rfl
      rw [cellsI25a] at h0
      obtain ⟨x0, e0, _, w0⟩ := DataW.trod_int Try.underlying3 (show DataW.trod enc Try.prog w base (fun _ => true) held n 3 [c0] = some y0 from h0)
      have h1 : DataW.trod enc Try.prog w base (fun _ => true) held n 3 ((([c0, c1, c2, c3, c4, c5, c6, c7, c8, c9, c10] : List Value).drop 1).take (Try.prog.cellsOf 3)) = some y1 := hg 1 _ rfl
      rw [cellsI25a] at h1
      obtain ⟨x1, e1, _, w1⟩ := DataW.trod_int Try.underlying3 (show DataW.trod enc Try.prog w base (fun _ => true) held n 3 [c1] = some y1 from h1)
      have h2 : DataW.trod enc Try.prog w base (fun _ => true) held n 3 ((([c0, c1, c2, c3, c4, c5, c6, c7, c8, c9, c10] : List Value).drop 2).take (Try.prog.cellsOf 3)) = some y2 := hg 2 _ rfl
      rw [cellsI25a] at h2
      obtain ⟨x2, e2, _, w2⟩ := DataW.trod_int Try.underlying3 (show DataW.trod enc Try.prog w base (fun _ => true) held n 3 [c2] = some y2 from h2)
      have h3 : DataW.trod enc Try.prog w base (fun _ => true) held n 24 ((([c0, c1, c2, c3, c4, c5, c6, c7, c8, c9, c10] : List Value).drop 3).take (Try.prog.cellsOf 24)) = some y3 := hg 3 _ rfl
      rw [cells_pl25a] at h3
      obtain ⟨x3_0, x3_1, e3, w3_0, w3_1⟩ := pl25a_of (cs := [c3, c4]) rfl h3
      have h4 : DataW.trod enc Try.prog w base (fun _ => true) held n 3 ((([c0, c1, c2, c3, c4, c5, c6, c7, c8, c9, c10] : List Value).drop 5).take (Try.prog.cellsOf 3)) = some y4 := hg 4 _ rfl
      rw [cellsI25a] at h4
      obtain ⟨x4, e4, _, w4⟩ := DataW.trod_int Try.underlying3 (show DataW.trod enc Try.prog w base (fun _ => true) held n 3 [c5] = some y4 from h4)
      have h5 : DataW.trod enc Try.prog w base (fun _ => true) held n 24 ((([c0, c1, c2, c3, c4, c5, c6, c7, c8, c9, c10] : List Value).drop 6).take (Try.prog.cellsOf 24)) = some y5 := hg 5 _ rfl
      rw [cells_pl25a] at h5
      obtain ⟨x5_0, x5_1, e5, w5_0, w5_1⟩ := pl25a_of (cs := [c6, c7]) rfl h5
      have h6 : DataW.trod enc Try.prog w base (fun _ => true) held n 62 ((([c0, c1, c2, c3, c4, c5, c6, c7, c8, c9, c10] : List Value).drop 8).take (Try.prog.cellsOf 62)) = some y6 := hg 6 _ rfl
      rw [cells_pr25a] at h6
      obtain ⟨x6_0, x6_1, x6_2, e6, w6_0, w6_1⟩ := pr25a_of (cs := [c8, c9, c10]) rfl h6
      simp only [List.cons.injEq, and_true] at e0 e1 e2 e3 e4 e5 e6
      obtain ⟨rfl, rfl⟩ := e3
      obtain ⟨rfl, rfl⟩ := e5
      obtain ⟨rfl, rfl, rfl⟩ := e6
      subst e0 e1 e2 e4
      exact ⟨x0, x1, x2, x3_0, x3_1, x4, x5_0, x5_1, x6_0, x6_1, x6_2, rfl, w0, w1, w2, w3_0, w3_1, w4, w5_0, w5_1, w6_0, w6_1⟩
set_option maxRecDepth 100000 in
theorem ac25a_of {fuel : Nat} {cs : List Value} {x : DataW H × List MemPlace} (hl : cs.length = 15) (hf : DataW.trod enc Try.prog w base (fun _ => true) held fuel 69 cs = some x) : ∃ (z0 : Int) (z1 : Int) (z2 : Int) (z3 : Int) (z4 : Int) (z5 : ByteArray) (z6 : Int) (z7 : Int) (z8 : ByteArray) (z9 : Int) (z10 : ByteArray) (z11 : ByteArray) (z12 : Bool) (z13 : Int) (z14 : ByteArray), cs = [.int .i64 z0, .int .i64 z1, .int .i64 z2, .int .i64 z3, .int .i64 z4, .string z5, .int .i64 z6, .int .i64 z7, .string z8, .int .i64 z9, .string z10, .string z11, .bool z12, .int .i64 z13, .string z14] ∧ (Lit.int .i64 z0).wf = true ∧ (Lit.int .i64 z1).wf = true ∧ (Lit.int .i64 z2).wf = true ∧ (Lit.int .i64 z3).wf = true ∧ (Lit.int .i64 z4).wf = true ∧ z5.size ≤ maxLen ∧ (Lit.int .i64 z6).wf = true ∧ (Lit.int .i64 z7).wf = true ∧ z8.size ≤ maxLen ∧ (Lit.int .i64 z9).wf = true ∧ z10.size ≤ maxLen ∧ z11.size ≤ maxLen ∧ (Lit.int .i64 z13).wf = true ∧ z14.size ≤ maxLen := by
  match cs, hl with
  | [c0, c1, c2, c3, c4, c5, c6, c7, c8, c9, c10, c11, c12, c13, c14], _ =>
    obtain ⟨xs, n, _, _, _, hlen, hg⟩ := DataW.trod_struct Try.underlying69 hf
    match xs, hlen with
    | [y0, y1, y2, y3], _ =>
      have h0 : DataW.trod enc Try.prog w base (fun _ => true) held n 3 ((([c0, c1, c2, c3, c4, c5, c6, c7, c8, c9, c10, c11, c12, c13, c14] : List Value).drop 0).take (Try.prog.cellsOf 3)) = some y0 := hg 0 _ rfl
      rw [cellsI25a] at h0
      obtain ⟨x0, e0, _, w0⟩ := DataW.trod_int Try.underlying3 (show DataW.trod enc Try.prog w base (fun _ => true) held n 3 [c0] = some y0 from h0)
      have h1 : DataW.trod enc Try.prog w base (fun _ => true) held n 3 ((([c0, c1, c2, c3, c4, c5, c6, c7, c8, c9, c10, c11, c12, c13, c14] : List Value).drop 1).take (Try.prog.cellsOf 3)) = some y1 := hg 1 _ rfl
      rw [cellsI25a] at h1
      obtain ⟨x1, e1, _, w1⟩ := DataW.trod_int Try.underlying3 (show DataW.trod enc Try.prog w base (fun _ => true) held n 3 [c1] = some y1 from h1)
      have h2 : DataW.trod enc Try.prog w base (fun _ => true) held n 67 ((([c0, c1, c2, c3, c4, c5, c6, c7, c8, c9, c10, c11, c12, c13, c14] : List Value).drop 2).take (Try.prog.cellsOf 67)) = some y2 := hg 2 _ rfl
      rw [cells_re25a] at h2
      obtain ⟨x2_0, x2_1, x2_2, x2_3, x2_4, x2_5, x2_6, x2_7, x2_8, x2_9, x2_10, e2, w2_0, w2_1, w2_2, w2_3, w2_4, w2_5, w2_6, w2_7, w2_8, w2_9⟩ := re25a_of (cs := [c2, c3, c4, c5, c6, c7, c8, c9, c10, c11, c12]) rfl h2
      have h3 : DataW.trod enc Try.prog w base (fun _ => true) held n 33 ((([c0, c1, c2, c3, c4, c5, c6, c7, c8, c9, c10, c11, c12, c13, c14] : List Value).drop 13).take (Try.prog.cellsOf 33)) = some y3 := hg 3 _ rfl
      rw [cells_fr25a] at h3
      obtain ⟨x3_0, x3_1, e3, w3_0, w3_1⟩ := fr25a_of (cs := [c13, c14]) rfl h3
      simp only [List.cons.injEq, and_true] at e0 e1 e2 e3
      obtain ⟨rfl, rfl, rfl, rfl, rfl, rfl, rfl, rfl, rfl, rfl, rfl⟩ := e2
      obtain ⟨rfl, rfl⟩ := e3
      subst e0 e1
      exact ⟨x0, x1, x2_0, x2_1, x2_2, x2_3, x2_4, x2_5, x2_6, x2_7, x2_8, x2_9, x2_10, x3_0, x3_1, rfl, w0, w1, w2_0, w2_1, w2_2, w2_3, w2_4, w2_5, w2_6, w2_7, w2_8, w2_9, w3_0, w3_1⟩
set_option maxRecDepth 100000 in
theorem open_a25 {b0 : Nat} {v : Value} {d : DataW H} {p : List MemPlace} (hval : Value.okWide Try.prog w .any b0 69 v) (h : DataW.Trod enc Try.prog w base (fun _ => true) held 69 v d p) :
    ∃ (z0 : Int) (z1 : Int) (z2 : Int) (z3 : Int) (z4 : Int) (z5 : ByteArray) (z6 : Int) (z7 : Int) (z8 : ByteArray) (z9 : Int) (z10 : ByteArray) (z11 : ByteArray) (z12 : Bool) (z13 : Int) (z14 : ByteArray), v = .agg #[.int .i64 z0, .int .i64 z1, .int .i64 z2, .int .i64 z3, .int .i64 z4, .string z5, .int .i64 z6, .int .i64 z7, .string z8, .int .i64 z9, .string z10, .string z11, .bool z12, .int .i64 z13, .string z14] ∧ (Lit.int .i64 z0).wf = true ∧ (Lit.int .i64 z1).wf = true ∧ (Lit.int .i64 z2).wf = true ∧ (Lit.int .i64 z3).wf = true ∧ (Lit.int .i64 z4).wf = true ∧ z5.size ≤ maxLen ∧ (Lit.int .i64 z6).wf = true ∧ (Lit.int .i64 z7).wf = true ∧ z8.size ≤ maxLen ∧ (Lit.int .i64 z9).wf = true ∧ z10.size ≤ maxLen ∧ z11.size ≤ maxLen ∧ (Lit.int .i64 z13).wf = true ∧ z14.size ≤ maxLen := by
  obtain ⟨cs, rfl, hsz⟩ := okWide_struct Try.underlying69 hval
  obtain ⟨l⟩ := cs
  rw [cells_ac25a] at hsz
  obtain ⟨fuel, hf⟩ := h
  obtain ⟨z0, z1, z2, z3, z4, z5, z6, z7, z8, z9, z10, z11, z12, z13, z14, hl, hw⟩ := ac25a_of (fuel := fuel) (cs := l) (by simpa using hsz) hf
  exact ⟨z0, z1, z2, z3, z4, z5, z6, z7, z8, z9, z10, z11, z12, z13, z14, by rw [hl], hw⟩
end
end Go.Proofs.Ytgogackkeodciaa.W

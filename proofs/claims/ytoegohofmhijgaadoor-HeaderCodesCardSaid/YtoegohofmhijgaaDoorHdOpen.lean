/- Headers that come in, opened. -/
import Derived.Test.YtoegohofmhijgaaDoorProg
import Derived.Test.YtoegohofmhijgaaDoorOpenBytes
namespace Go.Proofs.YtoegohofmhijgaaDoor.M
open Go.ChangeShapes Go.WideShapes Go.ChangeAt Go.RowKit
theorem cellsHd4 : Tryd.prog.cellsOf 24 = 4 := by kernel_rfl
theorem cellsHdU : Tryd.prog.cellsOf 22 = 1 := by kernel_rfl
theorem cellsHdI : Tryd.prog.cellsOf 3 = 1 := by kernel_rfl
section
variable {H : Type} {enc : TypeId × Value → H} {w : World} {base : Nat} {held : Bool}
set_option maxRecDepth 100000 in
theorem open_hd4 {b0 : Nat} {v : Value} {d : DataW H} {p : List MemPlace} (hval : Value.okWide Tryd.prog w .any b0 24 v) (h : DataW.Trod enc Tryd.prog w base (fun _ => true) held 24 v d p) :
    ∃ x0 x1 x2 x3, v = .agg #[.int .i64 x0, .int .u32 x1, .int .u32 x2, .int .i64 x3] ∧ (Lit.int .i64 x0).wf = true ∧ (Lit.int .u32 x1).wf = true ∧ (Lit.int .u32 x2).wf = true ∧ (Lit.int .i64 x3).wf = true := by
  obtain ⟨cs, rfl, hsz⟩ := okWide_struct Tryd.underlying24 hval
  obtain ⟨l⟩ := cs
  rw [cellsHd4] at hsz
  match l, hsz with
  | [c0, c1, c2, c3], _ =>
    obtain ⟨fuel, hf⟩ := h
    obtain ⟨xs, n, _, _, _, hlen, hg⟩ := DataW.trod_struct Tryd.underlying24 hf
    match xs, hlen with
    | [y0, y1, y2, y3], _ =>
      have h0 : DataW.trod enc Tryd.prog w base (fun _ => true) held n 3 ((([c0, c1, c2, c3] : List Value).drop 0).take (Tryd.prog.cellsOf 3)) = some y0 := hg 0 _ rfl
      have h1 : DataW.trod enc Tryd.prog w base (fun _ => true) held n 22 ((([c0, c1, c2, c3] : List Value).drop 1).take (Tryd.prog.cellsOf 22)) = some y1 := hg 1 _ rfl
      have h2 : DataW.trod enc Tryd.prog w base (fun _ => true) held n 22 ((([c0, c1, c2, c3] : List Value).drop 2).take (Tryd.prog.cellsOf 22)) = some y2 := hg 2 _ rfl
      have h3 : DataW.trod enc Tryd.prog w base (fun _ => true) held n 3 ((([c0, c1, c2, c3] : List Value).drop 3).take (Tryd.prog.cellsOf 3)) = some y3 := hg 3 _ rfl
      rw [cellsHdU] at h1 h2
      rw [cellsHdI] at h0 h3
      obtain ⟨x0, e0, w0⟩ := one_elem Tryd.underlying3 (by simp) (show DataW.trod enc Tryd.prog w base (fun _ => true) held n 3 [c0] = some y0 from h0)
      obtain ⟨x1, e1, w1⟩ := one_elem Tryd.underlying22 (by simp) (show DataW.trod enc Tryd.prog w base (fun _ => true) held n 22 [c1] = some y1 from h1)
      obtain ⟨x2, e2, w2⟩ := one_elem Tryd.underlying22 (by simp) (show DataW.trod enc Tryd.prog w base (fun _ => true) held n 22 [c2] = some y2 from h2)
      obtain ⟨x3, e3, w3⟩ := one_elem Tryd.underlying3 (by simp) (show DataW.trod enc Tryd.prog w base (fun _ => true) held n 3 [c3] = some y3 from h3)
      subst e0 e1 e2 e3
      exact ⟨x0, x1, x2, x3, rfl, w0, w1, w2, w3⟩
end
end Go.Proofs.YtoegohofmhijgaaDoor.M

/- Supers, sectors and falls that come in, opened. -/
import Derived.Test.YtkmlmondhmpkkaaProg
import Derived.Test.YtkmlmondhmpkkaaOpenBytes
import Derived.Test.YtkmlmondhmpkkaaOpenAct
namespace Go.Proofs.Ytkmlmondhmpkkaa.M
open Go.ChangeShapes Go.WideShapes Go.ChangeAt Go.RowKit
open Go.Proofs.Ytkmlmondhmpkkaa.D
set_option linter.unusedVariables false
theorem cellsU5 : Try.prog.cellsOf 43 = 5 := by kernel_rfl
theorem cellsU1 : Try.prog.cellsOf 22 = 1 := by kernel_rfl
theorem cellsU3 : Try.prog.cellsOf 41 = 3 := by kernel_rfl
theorem cellsB1 : Try.prog.cellsOf 5 = 1 := by kernel_rfl
theorem cellsB64 : Try.prog.cellsOf 74 = 64 := by kernel_rfl
theorem okWide_arr {P : Program} {w : World} {b0 n : Nat} {t e : TypeId} {v : Value} (ht : P.underlying t = some (.array n e)) (hval : Value.okWide P w .any b0 t v) : ∃ cs, v = .agg cs := by
  obtain ⟨cs, rfl, _, _⟩ : ∃ cs, v = .agg cs ∧ cs.size = P.cellsOf t ∧ Row.okWide P w .any b0 t cs := by
    simpa [Value.okWide, ht] using hval
  exact ⟨cs, rfl⟩
section
variable {H : Type} {enc : TypeId × Value → H} {w : World} {base : Nat} {held : Bool}
set_option maxRecDepth 100000 in
theorem open_super5 {b0 : Nat} {v : Value} {d : DataW H} {p : List MemPlace} (hval : Value.okWide Try.prog w .any b0 43 v) (h : DataW.Trod enc Try.prog w base (fun _ => true) held 43 v d p) :
    ∃ x0 x1 x2 x3 x4, v = .agg #[.int .u32 x0, .int .u32 x1, .int .u32 x2, .int .u32 x3, .int .u32 x4] ∧ (Lit.int .u32 x0).wf = true ∧ (Lit.int .u32 x1).wf = true ∧ (Lit.int .u32 x2).wf = true ∧ (Lit.int .u32 x3).wf = true ∧ (Lit.int .u32 x4).wf = true := by
  obtain ⟨cs, rfl, hsz⟩ := okWide_struct Try.underlying43 hval
  obtain ⟨l⟩ := cs
  rw [cellsU5] at hsz
  match l, hsz with
  | [c0, c1, c2, c3, c4], _ =>
    obtain ⟨fuel, hf⟩ := h
    obtain ⟨xs, n, _, _, _, hlen, hg⟩ := DataW.trod_struct Try.underlying43 hf
    match xs, hlen with
    | [y0, y1, y2], _ =>
      have h0 : DataW.trod enc Try.prog w base (fun _ => true) held n 22 ((([c0, c1, c2, c3, c4] : List Value).drop 0).take (Try.prog.cellsOf 22)) = some y0 := hg 0 _ rfl
      have h1 : DataW.trod enc Try.prog w base (fun _ => true) held n 22 ((([c0, c1, c2, c3, c4] : List Value).drop 1).take (Try.prog.cellsOf 22)) = some y1 := hg 1 _ rfl
      have h2 : DataW.trod enc Try.prog w base (fun _ => true) held n 41 ((([c0, c1, c2, c3, c4] : List Value).drop 2).take (Try.prog.cellsOf 41)) = some y2 := hg 2 _ rfl
      rw [cellsU1] at h0 h1
      rw [cellsU3] at h2
      obtain ⟨zs, m, _, _, _, hn, hx⟩ := DataW.trod_array Try.underlying41 h2
      have g0 := hx 0 (by omega)
      have g1 := hx 1 (by omega)
      have g2 := hx 2 (by omega)
      rw [cellsU1] at g0 g1 g2
      obtain ⟨x0, e0, w0⟩ := one_elem Try.underlying22 (by simp) (show DataW.trod enc Try.prog w base (fun _ => true) held n 22 [c0] = some y0 from h0)
      obtain ⟨x1, e1, w1⟩ := one_elem Try.underlying22 (by simp) (show DataW.trod enc Try.prog w base (fun _ => true) held n 22 [c1] = some y1 from h1)
      obtain ⟨x2, e2, w2⟩ := one_elem Try.underlying22 (by simp [hn]) (show DataW.trod enc Try.prog w base (fun _ => true) held m 22 [c2] = zs[0]? from g0)
      obtain ⟨x3, e3, w3⟩ := one_elem Try.underlying22 (by simp [hn]) (show DataW.trod enc Try.prog w base (fun _ => true) held m 22 [c3] = zs[1]? from g1)
      obtain ⟨x4, e4, w4⟩ := one_elem Try.underlying22 (by simp [hn]) (show DataW.trod enc Try.prog w base (fun _ => true) held m 22 [c4] = zs[2]? from g2)
      subst e0 e1 e2 e3 e4
      exact ⟨x0, x1, x2, x3, x4, rfl, w0, w1, w2, w3, w4⟩
theorem open_bytesN {P : Program} {w : World} {base : Nat} {held : Bool} {b0 n : Nat} {t e : TypeId} {v : Value} {d : DataW H} {p : List MemPlace} (ht : P.underlying t = some (.array n e)) (he : P.underlying e = some (.int .u8)) (hce : P.cellsOf e = 1) (hct : P.cellsOf t = n)
    (hval : Value.okWide P w .any b0 t v) (h : DataW.Trod enc P w base (fun _ => true) held t v d p) : ∃ dl, v = .agg (bytesV dl).toArray ∧ dl.length = n := by
  obtain ⟨cs, rfl⟩ := okWide_arr ht hval
  obtain ⟨l⟩ := cs
  obtain ⟨fuel, hf⟩ := h
  obtain ⟨dl, l2, e2⟩ := open_bytes ht he hce hct (show DataW.trod enc P w base (fun _ => true) held fuel t l = some _ from hf)
  exact ⟨dl, by rw [e2], l2⟩
set_option maxRecDepth 100000 in
theorem open_bytes64 {b0 : Nat} {v : Value} {d : DataW H} {p : List MemPlace} (hval : Value.okWide Try.prog w .any b0 74 v) (h : DataW.Trod enc Try.prog w base (fun _ => true) held 74 v d p) :
    ∃ dl, v = .agg (bytesV dl).toArray ∧ dl.length = 64 := open_bytesN Try.underlying74 Try.underlying5 cellsB1 cellsB64 hval h
end
end Go.Proofs.Ytkmlmondhmpkkaa.M
namespace Go.Proofs.Ytkmlmondhmpkkaa.D
open Go.ChangeShapes Go.WideShapes Go.ChangeAt Go.RowKit
set_option linter.unusedVariables false
theorem cellsFall : Try.prog.cellsOf 62 = 2 := by kernel_rfl
section
variable {H : Type} {enc : TypeId × Value → H} {w : World} {base : Nat} {held : Bool}
set_option maxRecDepth 100000 in
theorem open_fall {b0 : Nat} {v : Value} {d : DataW H} {p : List MemPlace} (hval : Value.okWide Try.prog w .any b0 62 v) (h : DataW.Trod enc Try.prog w base (fun _ => true) held 62 v d p) :
    ∃ q kv kl, v = .agg #[.int .i64 q, kv] ∧ (Lit.int .i64 q).wf = true ∧ Keeps w kv kl := by
  obtain ⟨cs, rfl, hsz⟩ := okWide_struct Try.underlying62 hval
  obtain ⟨l⟩ := cs
  rw [cellsFall] at hsz
  match l, hsz with
  | [c0, c1], _ =>
    obtain ⟨fuel, hf⟩ := h
    obtain ⟨y0, y1, n, _, _, h0, h1⟩ := trod_struct2 Try.underlying62 hf
    have g0 : DataW.trod enc Try.prog w base (fun _ => true) held n 3 [c0] = some y0 := by rw [cellsInt] at h0; exact h0
    have g1 : DataW.trod enc Try.prog w base (fun _ => true) held n 60 [c1] = some y1 := by rw [cellsKs] at h1; exact h1
    obtain ⟨x0, e0, _, w0⟩ := DataW.trod_int Try.underlying3 g0
    obtain ⟨kl, hk⟩ := open_keeps g1
    simp only [List.cons.injEq, and_true] at e0
    subst e0
    exact ⟨x0, c1, kl, rfl, w0, hk⟩
end
end Go.Proofs.Ytkmlmondhmpkkaa.D

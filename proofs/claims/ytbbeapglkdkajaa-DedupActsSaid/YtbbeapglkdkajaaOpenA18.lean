/- The acts of layer 18's law that come in, opened. -/
import Derived.Test.YtbbeapglkdkajaaDdS
import Derived.Test.YtbbeapglkdkajaaOpenBytes
import Derived.Deep.Slices
namespace Go.Proofs.Ytbbeapglkdkajaa.W
open Go.ChangeShapes Go.WideShapes Go.ChangeAt Go.RowKit Go.Sort
open Go.Proofs.Ytbbeapglkdkajaa.M Go.Proofs.Ytbbeapglkdkajaa.D Go.Proofs.Ytbbeapglkdkajaa.Z
set_option linter.unusedVariables false
set_option linter.unusedSimpArgs false

/-- A call that comes in. -/
structure A18 where
  k : Int
  p : Int
  s : Int
  n : Int
  o : Int
abbrev a18L (x : A18) : List Value := [.int .i64 x.k, .int .i64 x.p, .int .i64 x.s, .int .i64 x.n, .int .i64 x.o]
def A18.wf (x : A18) : Prop := (Lit.int .i64 x.k).wf = true ∧ (Lit.int .i64 x.p).wf = true ∧ (Lit.int .i64 x.s).wf = true ∧ (Lit.int .i64 x.n).wf = true ∧ (Lit.int .i64 x.o).wf = true
theorem cellsA18 : Try.prog.cellsOf 44 = 5 := by kernel_rfl
theorem cellsI18 : Try.prog.cellsOf 3 = 1 := by kernel_rfl
section
variable {H : Type} {enc : TypeId × Value → H} {w : World} {base : Nat} {held : Bool}
set_option maxRecDepth 100000 in
theorem a18_of {fuel : Nat} {cs : List Value} {x : DataW H × List MemPlace} (hl : cs.length = 5) (hf : DataW.trod enc Try.prog w base (fun _ => true) held fuel 44 cs = some x) : ∃ r : A18, cs = a18L r ∧ r.wf := by
  match cs, hl with
  | [c0, c1, c2, c3, c4], _ =>
    obtain ⟨xs, n, _, _, _, hlen, hg⟩ := DataW.trod_struct Try.underlying44 hf
    match xs, hlen with
    | [y0, y1, y2, y3, y4], _ =>
      have h0 : DataW.trod enc Try.prog w base (fun _ => true) held n 3 ((([c0, c1, c2, c3, c4] : List Value).drop 0).take (Try.prog.cellsOf 3)) = some y0 := hg 0 _ rfl
      have h1 : DataW.trod enc Try.prog w base (fun _ => true) held n 3 ((([c0, c1, c2, c3, c4] : List Value).drop 1).take (Try.prog.cellsOf 3)) = some y1 := hg 1 _ rfl
      have h2 : DataW.trod enc Try.prog w base (fun _ => true) held n 3 ((([c0, c1, c2, c3, c4] : List Value).drop 2).take (Try.prog.cellsOf 3)) = some y2 := hg 2 _ rfl
      have h3 : DataW.trod enc Try.prog w base (fun _ => true) held n 3 ((([c0, c1, c2, c3, c4] : List Value).drop 3).take (Try.prog.cellsOf 3)) = some y3 := hg 3 _ rfl
      have h4 : DataW.trod enc Try.prog w base (fun _ => true) held n 3 ((([c0, c1, c2, c3, c4] : List Value).drop 4).take (Try.prog.cellsOf 3)) = some y4 := hg 4 _ rfl
      rw [cellsI18] at h0 h1 h2 h3 h4
      obtain ⟨x0, e0, _, w0⟩ := DataW.trod_int Try.underlying3 (show DataW.trod enc Try.prog w base (fun _ => true) held n 3 [c0] = some y0 from h0)
      obtain ⟨x1, e1, _, w1⟩ := DataW.trod_int Try.underlying3 (show DataW.trod enc Try.prog w base (fun _ => true) held n 3 [c1] = some y1 from h1)
      obtain ⟨x2, e2, _, w2⟩ := DataW.trod_int Try.underlying3 (show DataW.trod enc Try.prog w base (fun _ => true) held n 3 [c2] = some y2 from h2)
      obtain ⟨x3, e3, _, w3⟩ := DataW.trod_int Try.underlying3 (show DataW.trod enc Try.prog w base (fun _ => true) held n 3 [c3] = some y3 from h3)
      obtain ⟨x4, e4, _, w4⟩ := DataW.trod_int Try.underlying3 (show DataW.trod enc Try.prog w base (fun _ => true) held n 3 [c4] = some y4 from h4)
      simp only [List.cons.injEq, and_true] at e0 e1 e2 e3 e4
      subst e0 e1 e2 e3 e4
      exact ⟨⟨x0, x1, x2, x3, x4⟩, rfl, w0, w1, w2, w3, w4⟩
set_option maxRecDepth 100000 in
theorem open_a18 {b0 : Nat} {v : Value} {d : DataW H} {p : List MemPlace} (hval : Value.okWide Try.prog w .any b0 44 v) (h : DataW.Trod enc Try.prog w base (fun _ => true) held 44 v d p) : ∃ r : A18, v = .agg #[.int .i64 r.k, .int .i64 r.p, .int .i64 r.s, .int .i64 r.n, .int .i64 r.o] ∧ r.wf := by
  obtain ⟨cs, rfl, hsz⟩ := okWide_struct Try.underlying44 hval
  obtain ⟨l⟩ := cs
  rw [cellsA18] at hsz
  obtain ⟨fuel, hf⟩ := h
  obtain ⟨r, hl, hw⟩ := a18_of (fuel := fuel) (cs := l) (by simpa using hsz) hf
  exact ⟨r, by rw [hl], hw⟩
/-- Calls that come in, in a row. -/
structure A18In (w : World) (a : Option Addr) (len : Nat) (xs : List A18) : Prop where
  len : xs.length = len
  at_ : ∀ i r, xs[i]? = some r → ∃ b o, a = some ⟨b, o, none⟩ ∧ b < w.heap.size ∧ ∀ j v, (a18L r)[j]? = some v → w.cell? ⟨b, o + i * 5 + j, none⟩ = some v
  wf : ∀ r ∈ xs, r.wf
theorem spot18 {w : World} {a : Addr} {u v : Value} {j : Nat} (h0 : w.cell? (a.add 0) = some u) (h : w.cell? (a.add j) = some v) : ∃ b o, a = ⟨b, o, none⟩ ∧ w.cell? ⟨b, o + j, none⟩ = some v := by
  obtain ⟨b, o, spot⟩ := a
  have hspot := World.cell?_spot h0
  simp [Addr.add] at hspot
  subst hspot
  exact ⟨b, o, rfl, by rwa [show (⟨b, o, none⟩ : Addr).add j = ⟨b, o + j, none⟩ from by unfold Addr.add; split <;> simp_all] at h⟩
set_option maxRecDepth 100000 in
theorem open_acts18 {fuel : Nat} {a : Option Addr} {len cap : Nat} {x : DataW H × List MemPlace} (h : DataW.trod enc Try.prog w base (fun _ => true) held fuel 39 [.slice a len cap] = some x) : ∃ xs, A18In w a len xs := by
  rcases Deep.open_slice Try.underlying39 h with ⟨hcs, _⟩ | ⟨a', len', cap', m, n, D, Pl, hcs, _, hl, hm, hmm, _, hi⟩
  · have hkv : Value.slice a len cap = .slice none 0 0 := by simpa using hcs
    injection hkv with e1 e2 e3
    subst e1 e2
    exact ⟨[], rfl, fun i f hf => by simp at hf, fun f hf => by simp at hf⟩
  · have hkv : Value.slice a len cap = .slice (some a') len' cap' := by simpa using hcs
    injection hkv with e1 e2 e3
    subst e1 e2
    have hq : ∀ i, ∃ r : A18, i < len → (∀ j v, (a18L r)[j]? = some v → w.cell? (a'.add (i * 5 + j)) = some v) ∧ r.wf := fun i => by
      by_cases hlt : i < len
      · obtain ⟨cs', hc, ht'⟩ := hi i (by rw [hmm]; simp; omega)
        rw [cellsA18] at hc
        obtain ⟨_, hcl, hat⟩ := World.cells?_some hc
        obtain ⟨r, hr, hw⟩ := a18_of hcl ht'
        refine ⟨r, fun _ => ⟨fun j v hj => ?_, hw⟩⟩
        have hj8 : j < 5 := by have := (List.getElem?_eq_some_iff.1 hj).1; simpa using this
        have a0 := hat j hj8
        rw [Deep.add_add, hr] at a0
        exact a0.trans hj
      · exact ⟨⟨0, 0, 0, 0, 0⟩, fun h => absurd h hlt⟩
    refine ⟨(List.range len).map fun i => Classical.choose (hq i), by simp, fun j r hjr => ?_, fun r hr => ?_⟩
    · have hj : j < len := by
        have := (List.getElem?_eq_some_iff.1 hjr).1
        simpa using this
      have hs := Classical.choose_spec (hq j) hj
      rw [List.getElem?_map, List.getElem?_range hj] at hjr
      have e : Classical.choose (hq j) = r := by simpa using hjr
      rw [e] at hs
      obtain ⟨u0, h00⟩ : ∃ u, w.cell? (a'.add 0) = some u := ⟨_, (Classical.choose_spec (hq 0) (by omega)).1 0 _ rfl⟩
      obtain ⟨b, o, rfl, c0⟩ := spot18 h00 (hs.1 0 _ rfl)
      refine ⟨b, o, rfl, World.block_lt_of_cell? w _ c0, fun i v hv => ?_⟩
      obtain ⟨b', o', e', c1⟩ := spot18 h00 (hs.1 i v hv)
      cases e'
      rw [Nat.add_assoc]
      exact c1
    · obtain ⟨i, hi, rfl⟩ := List.mem_map.1 hr
      exact (Classical.choose_spec (hq i) (List.mem_range.1 hi)).2
end
end Go.Proofs.Ytbbeapglkdkajaa.W

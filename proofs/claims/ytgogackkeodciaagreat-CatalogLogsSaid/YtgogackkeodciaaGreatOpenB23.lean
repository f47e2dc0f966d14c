/- The acts of layer 23's law that come in, opened. The acts of layer 23's law that come in, in a row, opened. -/
import Derived.Test.YtgogackkeodciaaGreatCgN
import Derived.Deep.Slices
import Derived.OpenShut
import Derived.ShutString
import Derived.Deep.DeepHandedRow
section
namespace Go.Proofs.YtgogackkeodciaaGreat.W
open Go.ChangeShapes Go.WideShapes Go.ChangeAt Go.RowKit Go.Sort
open Go.Proofs.YtgogackkeodciaaGreat.M Go.Proofs.YtgogackkeodciaaGreat.D Go.Proofs.YtgogackkeodciaaGreat.Z
set_option linter.unusedVariables false
set_option linter.unusedSimpArgs false

/-- A call that comes in. -/
structure A23 where
  k : Int
  s : Sp
  pn : ByteArray
  pp : Int
  m : Mt
  fk : Int
  fp : ByteArray
abbrev a23L (x : A23) : List Value := [.int .i64 x.k, .string x.s.nm, .int .i64 x.s.parts, .int .i64 x.s.age, .int .i64 x.s.size, .bool x.s.comp, .string x.pn, .int .i64 x.pp, .int .i64 x.m.gen, .int .i64 x.m.seq, .int .i64 x.m.start, .int .i64 x.m.next, .string x.m.tab, .int .i64 x.fk, .string x.fp]
def A23.wf (x : A23) : Prop := ((Lit.int .i64 x.k).wf = true ∧ (Lit.int .i64 x.pp).wf = true ∧ (Lit.int .i64 x.fk).wf = true) ∧ (x.s.nm.size ≤ maxLen ∧ (Lit.int .i64 x.s.parts).wf = true ∧ (Lit.int .i64 x.s.age).wf = true ∧ (Lit.int .i64 x.s.size).wf = true) ∧ ((Lit.int .i64 x.m.gen).wf = true ∧ (Lit.int .i64 x.m.seq).wf = true ∧ (Lit.int .i64 x.m.start).wf = true ∧ (Lit.int .i64 x.m.next).wf = true ∧ x.m.tab.size ≤ maxLen) ∧ x.pn.size ≤ maxLen ∧ x.fp.size ≤ maxLen
theorem cellsA23 : Tryz.prog.cellsOf 39 = 15 := by kernel_rfl
theorem cellsI23 : Tryz.prog.cellsOf 3 = 1 := by kernel_rfl
theorem cellsS23 : Tryz.prog.cellsOf 9 = 1 := by kernel_rfl
theorem cellsB23 : Tryz.prog.cellsOf 4 = 1 := by kernel_rfl
theorem cellsSp23 : Tryz.prog.cellsOf 31 = 5 := by kernel_rfl
theorem cellsPl23 : Tryz.prog.cellsOf 33 = 2 := by kernel_rfl
theorem cellsMt23 : Tryz.prog.cellsOf 35 = 5 := by kernel_rfl
theorem cellsFr23 : Tryz.prog.cellsOf 37 = 2 := by kernel_rfl
section
variable {H : Type} {enc : TypeId × Value → H} {w : World} {base : Nat} {held : Bool}
set_option maxRecDepth 100000 in
theorem sp23_of {fuel : Nat} {cs : List Value} {x : DataW H × List MemPlace} (hl : cs.length = 5) (hf : DataW.trod enc Tryz.prog w base (fun _ => true) held fuel 31 cs = some x) : ∃ s : Sp, cs = spL s ∧ s.nm.size ≤ maxLen ∧ (Lit.int .i64 s.parts).wf = true ∧ (Lit.int .i64 s.age).wf = true ∧ (Lit.int .i64 s.size).wf = true := by
  match cs, hl with
  | [c0, c1, c2, c3, c4], _ =>
    obtain ⟨xs, n, _, _, _, hlen, hg⟩ := DataW.trod_struct Tryz.underlying31 hf
    match xs, hlen with
    | [y0, y1, y2, y3, y4], _ =>
      have h0 : DataW.trod enc Tryz.prog w base (fun _ => true) held n 9 ((([c0, c1, c2, c3, c4] : List Value).drop 0).take (Tryz.prog.cellsOf 9)) = some y0 := hg 0 _ rfl
      rw [cellsS23] at h0
      obtain ⟨x0, e0, _, w0⟩ := DataW.trod_string Tryz.underlying9 (show DataW.trod enc Tryz.prog w base (fun _ => true) held n 9 [c0] = some y0 from h0)
      have h1 : DataW.trod enc Tryz.prog w base (fun _ => true) held n 3 ((([c0, c1, c2, c3, c4] : List Value).drop 1).take (Tryz.prog.cellsOf 3)) = some y1 := hg 1 _ rfl
      rw [cellsI23] at h1
      obtain ⟨x1, e1, _, w1⟩ := DataW.trod_int Tryz.underlying3 (show DataW.trod enc Tryz.prog w base (fun _ => true) held n 3 [c1] = some y1 from h1)
      have h2 : DataW.trod enc Tryz.prog w base (fun _ => true) held n 3 ((([c0, c1, c2, c3, c4] : List Value).drop 2).take (Tryz.prog.cellsOf 3)) = some y2 := hg 2 _ rfl
      rw [cellsI23] at h2
      obtain ⟨x2, e2, _, w2⟩ := DataW.trod_int Tryz.underlying3 (show DataW.trod enc Tryz.prog w base (fun _ => true) held n 3 [c2] = some y2 from h2)
      have h3 : DataW.trod enc Tryz.prog w base (fun _ => true) held n 3 ((([c0, c1, c2, c3, c4] : List Value).drop 3).take (Tryz.prog.cellsOf 3)) = some y3 := hg 3 _ rfl
      rw [cellsI23] at h3
      obtain ⟨x3, e3, _, w3⟩ := DataW.trod_int Tryz.underlying3 (show DataW.trod enc Tryz.prog w base (fun _ => true) held n 3 [c3] = some y3 from h3)
      have h4 : DataW.trod enc Tryz.prog w base (fun _ => true) held n 4 ((([c0, c1, c2, c3, c4] : List Value).drop 4).take (Tryz.prog.cellsOf 4)) = some y4 := hg 4 _ rfl
      rw [cellsB23] at h4
      obtain ⟨x4, e4, _⟩ := DataW.trod_bool Tryz.underlying4 (show DataW.trod enc Tryz.prog w base (fun _ => true) held n 4 [c4] = some y4 from h4)
      simp only [List.cons.injEq, and_true] at e0 e1 e2 e3 e4
      subst e0 e1 e2 e3 e4
      exact ⟨⟨x0, x1, x2, x3, x4⟩, rfl, w0, w1, w2, w3⟩
set_option maxRecDepth 100000 in
theorem pl23_of {fuel : Nat} {cs : List Value} {x : DataW H × List MemPlace} (hl : cs.length = 2) (hf : DataW.trod enc Tryz.prog w base (fun _ => true) held fuel 33 cs = some x) : ∃ (t : ByteArray) (p : Int), cs = [.string t, .int .i64 p] ∧ t.size ≤ maxLen ∧ (Lit.int .i64 p).wf = true := by
  match cs, hl with
  | [c0, c1], _ =>
    obtain ⟨xs, n, _, _, _, hlen, hg⟩ := DataW.trod_struct Tryz.underlying33 hf
    match xs, hlen with
    | [y0, y1], _ =>
      have h0 : DataW.trod enc Tryz.prog w base (fun _ => true) held n 9 ((([c0, c1] : List Value).drop 0).take (Tryz.prog.cellsOf 9)) = some y0 := hg 0 _ rfl
      rw [cellsS23] at h0
      obtain ⟨x0, e0, _, w0⟩ := DataW.trod_string Tryz.underlying9 (show DataW.trod enc Tryz.prog w base (fun _ => true) held n 9 [c0] = some y0 from h0)
      have h1 : DataW.trod enc Tryz.prog w base (fun _ => true) held n 3 ((([c0, c1] : List Value).drop 1).take (Tryz.prog.cellsOf 3)) = some y1 := hg 1 _ rfl
      rw [cellsI23] at h1
      obtain ⟨x1, e1, _, w1⟩ := DataW.trod_int Tryz.underlying3 (show DataW.trod enc Tryz.prog w base (fun _ => true) held n 3 [c1] = some y1 from h1)
      simp only [List.cons.injEq, and_true] at e0 e1
      subst e0 e1
      exact ⟨x0, x1, rfl, w0, w1⟩
set_option maxRecDepth 100000 in
theorem mt23_of {fuel : Nat} {cs : List Value} {x : DataW H × List MemPlace} (hl : cs.length = 5) (hf : DataW.trod enc Tryz.prog w base (fun _ => true) held fuel 35 cs = some x) : ∃ m : Mt, cs = [.int .i64 m.gen, .int .i64 m.seq, .int .i64 m.start, .int .i64 m.next, .string m.tab] ∧ (Lit.int .i64 m.gen).wf = true ∧ (Lit.int .i64 m.seq).wf = true ∧ (Lit.int .i64 m.start).wf = true ∧ (Lit.int .i64 m.next).wf = true ∧ m.tab.size ≤ maxLen := by
  match cs, hl with
  | [c0, c1, c2, c3, c4], _ =>
    obtain ⟨xs, n, _, _, _, hlen, hg⟩ := DataW.trod_struct Tryz.underlying35 hf
    match xs, hlen with
    | [y0, y1, y2, y3, y4], _ =>
      have h0 : DataW.trod enc Tryz.prog w base (fun _ => true) held n 3 ((([c0, c1, c2, c3, c4] : List Value).drop 0).take (Tryz.prog.cellsOf 3)) = some y0 := hg 0 _ rfl
      rw [cellsI23] at h0
      obtain ⟨x0, e0, _, w0⟩ := DataW.trod_int Tryz.underlying3 (show DataW.trod enc Tryz.prog w base (fun _ => true) held n 3 [c0] = some y0 from h0)
      have h1 : DataW.trod enc Tryz.prog w base (fun _ => true) held n 3 ((([c0, c1, c2, c3, c4] : List Value).drop 1).take (Tryz.prog.cellsOf 3)) = some y1 := hg 1 _ rfl
      rw [cellsI23] at h1
      obtain ⟨x1, e1, _, w1⟩ := DataW.trod_int Tryz.underlying3 (show DataW.trod enc Tryz.prog w base (fun _ => true) held n 3 [c1] = some y1 from h1)
      have h2 : DataW.trod enc Tryz.prog w base (fun _ => true) held n 3 ((([c0, c1, c2, c3, c4] : List Value).drop 2).take (Tryz.prog.cellsOf 3)) = some y2 := hg 2 _ rfl
      rw [cellsI23] at h2
      obtain ⟨x2, e2, _, w2⟩ := DataW.trod_int Tryz.underlying3 (show DataW.trod enc Tryz.prog w base (fun _ => true) held n 3 [c2] = some y2 from h2)
      have h3 : DataW.trod enc Tryz.prog w base (fun _ => true) held n 3 ((([c0, c1, c2, c3, c4] : List Value).drop 3).take (Tryz.prog.cellsOf 3)) = some y3 := hg 3 _ rfl
      rw [cellsI23] at h3
      obtain ⟨x3, e3, _, w3⟩ := DataW.trod_int Tryz.underlying3 (show DataW.trod enc Tryz.prog w base (fun _ => true) held n 3 [c3] = some y3 from h3)
      have h4 : DataW.trod enc Tryz.prog w base (fun _ => true) held n 9 ((([c0, c1, c2, c3, c4] : List Value).drop 4).take (Tryz.prog.cellsOf 9)) = some y4 := hg 4 _ rfl
      rw [cellsS23] at h4
      obtain ⟨x4, e4, _, w4⟩ := DataW.trod_string Tryz.underlying9 (show DataW.trod enc Tryz.prog w base (fun _ => true) held n 9 [c4] = some y4 from h4)
      simp only [List.cons.injEq, and_true] at e0 e1 e2 e3 e4
      subst e0 e1 e2 e3 e4
      exact ⟨⟨x0, x1, x2, x3, x4⟩, rfl, w0, w1, w2, w3, w4⟩
set_option maxRecDepth 100000 in
theorem fr23_of {fuel : Nat} {cs : List Value} {x : DataW H × List MemPlace} (hl : cs.length = 2) (hf : DataW.trod enc Tryz.prog w base (fun _ => true) held fuel 37 cs = some x) : ∃ (k : Int) (p : ByteArray), cs = [.int .i64 k, .string p] ∧ (Lit.int .i64 k).wf = true ∧ p.size ≤ maxLen := by
  match cs, hl with
  | [c0, c1], _ =>
    obtain ⟨xs, n, _, _, _, hlen, hg⟩ := DataW.trod_struct Tryz.underlying37 hf
    match xs, hlen with
    | [y0, y1], _ =>
      have h0 : DataW.trod enc Tryz.prog w base (fun _ => true) held n 3 ((([c0, c1] : List Value).drop 0).take (Tryz.prog.cellsOf 3)) = some y0 := hg 0 _ rfl
      rw [cellsI23] at h0
      obtain ⟨x0, e0, _, w0⟩ := DataW.trod_int Tryz.underlying3 (show DataW.trod enc Tryz.prog w base (fun _ => true) held n 3 [c0] = some y0 from h0)
      have h1 : DataW.trod enc Tryz.prog w base (fun _ => true) held n 9 ((([c0, c1] : List Value).drop 1).take (Tryz.prog.cellsOf 9)) = some y1 := hg 1 _ rfl
      rw [cellsS23] at h1
      obtain ⟨x1, e1, _, w1⟩ := DataW.trod_string Tryz.underlying9 (show DataW.trod enc Tryz.prog w base (fun _ => true) held n 9 [c1] = some y1 from h1)
      simp only [List.cons.injEq, and_true] at e0 e1
      subst e0 e1
      exact ⟨x0, x1, rfl, w0, w1⟩
set_option maxRecDepth 100000 in
theorem a23_of {fuel : Nat} {cs : List Value} {x : DataW H × List MemPlace} (hl : cs.length = 15) (hf : DataW.trod enc Tryz.prog w base (fun _ => true) held fuel 39 cs = some x) : ∃ r : A23, cs = a23L r ∧ r.wf := by
  match cs, hl with
  | [c0, c1, c2, c3, c4, c5, c6, c7, c8, c9, c10, c11, c12, c13, c14], _ =>
    obtain ⟨xs, n, _, _, _, hlen, hg⟩ := DataW.trod_struct Tryz.underlying39 hf
    match xs, hlen with
    | [y0, y1, y2, y3, y4], _ =>
      have h0 : DataW.trod enc Tryz.prog w base (fun _ => true) held n 3 ((([c0, c1, c2, c3, c4, c5, c6, c7, c8, c9, c10, c11, c12, c13, c14] : List Value).drop 0).take (Tryz.prog.cellsOf 3)) = some y0 := hg 0 _ rfl
      have h1 : DataW.trod enc Tryz.prog w base (fun _ => true) held n 31 ((([c0, c1, c2, c3, c4, c5, c6, c7, c8, c9, c10, c11, c12, c13, c14] : List Value).drop 1).take (Tryz.prog.cellsOf 31)) = some y1 := hg 1 _ rfl
      have h2 : DataW.trod enc Tryz.prog w base (fun _ => true) held n 33 ((([c0, c1, c2, c3, c4, c5, c6, c7, c8, c9, c10, c11, c12, c13, c14] : List Value).drop 6).take (Tryz.prog.cellsOf 33)) = some y2 := hg 2 _ rfl
      have h3 : DataW.trod enc Tryz.prog w base (fun _ => true) held n 35 ((([c0, c1, c2, c3, c4, c5, c6, c7, c8, c9, c10, c11, c12, c13, c14] : List Value).drop 8).take (Tryz.prog.cellsOf 35)) = some y3 := hg 3 _ rfl
      have h4 : DataW.trod enc Tryz.prog w base (fun _ => true) held n 37 ((([c0, c1, c2, c3, c4, c5, c6, c7, c8, c9, c10, c11, c12, c13, c14] : List Value).drop 13).take (Tryz.prog.cellsOf 37)) = some y4 := hg 4 _ rfl
      rw [cellsI23] at h0
      rw [cellsSp23] at h1
      rw [cellsPl23] at h2
      rw [cellsMt23] at h3
      rw [cellsFr23] at h4
      obtain ⟨x0, e0, _, w0⟩ := DataW.trod_int Tryz.underlying3 (show DataW.trod enc Tryz.prog w base (fun _ => true) held n 3 [c0] = some y0 from h0)
      obtain ⟨sp, e1, w1⟩ := sp23_of (cs := [c1, c2, c3, c4, c5]) rfl h1
      obtain ⟨pn, pp, e2, w2⟩ := pl23_of (cs := [c6, c7]) rfl h2
      obtain ⟨m, e3, w3⟩ := mt23_of (cs := [c8, c9, c10, c11, c12]) rfl h3
      obtain ⟨fk, fp, e4, w4⟩ := fr23_of (cs := [c13, c14]) rfl h4
      simp only [List.cons.injEq, and_true] at e0 e1 e2 e3 e4
      obtain ⟨rfl, rfl, rfl, rfl, rfl⟩ := e1
      obtain ⟨rfl, rfl⟩ := e2
      obtain ⟨rfl, rfl, rfl, rfl, rfl⟩ := e3
      obtain ⟨rfl, rfl⟩ := e4
      subst e0
      exact ⟨⟨x0, sp, pn, pp, m, fk, fp⟩, rfl, ⟨w0, w2.2, w4.1⟩, w1, w3, w2.1, w4.2⟩
set_option maxRecDepth 100000 in
theorem open_a23 {b0 : Nat} {v : Value} {d : DataW H} {p : List MemPlace} (hval : Value.okWide Tryz.prog w .any b0 39 v) (h : DataW.Trod enc Tryz.prog w base (fun _ => true) held 39 v d p) :
    ∃ r : A23, v = .agg #[.int .i64 r.k, .string r.s.nm, .int .i64 r.s.parts, .int .i64 r.s.age, .int .i64 r.s.size, .bool r.s.comp, .string r.pn, .int .i64 r.pp, .int .i64 r.m.gen, .int .i64 r.m.seq, .int .i64 r.m.start, .int .i64 r.m.next, .string r.m.tab, .int .i64 r.fk, .string r.fp] ∧ r.wf := by
  obtain ⟨cs, rfl, hsz⟩ := okWide_struct Tryz.underlying39 hval
  obtain ⟨l⟩ := cs
  rw [cellsA23] at hsz
  obtain ⟨fuel, hf⟩ := h
  obtain ⟨r, hl, hw⟩ := a23_of (fuel := fuel) (cs := l) (by simpa using hsz) hf
  exact ⟨r, by rw [hl], hw⟩
end
end Go.Proofs.YtgogackkeodciaaGreat.W
end
section
namespace Go.Proofs.YtgogackkeodciaaGreat.W
open Go.ChangeShapes Go.WideShapes Go.ChangeAt Go.RowKit Go.Sort
open Go.Proofs.YtgogackkeodciaaGreat.M Go.Proofs.YtgogackkeodciaaGreat.D Go.Proofs.YtgogackkeodciaaGreat.Z
set_option linter.unusedVariables false
set_option linter.unusedSimpArgs false
section
variable {H : Type} {enc : TypeId × Value → H} {w : World} {base : Nat} {held : Bool}
/-- Calls that come in, in a row. -/
structure A23In (w : World) (a : Option Addr) (len : Nat) (xs : List A23) : Prop where
  len : xs.length = len
  at_ : ∀ i r, xs[i]? = some r → ∃ b o, a = some ⟨b, o, none⟩ ∧ b < w.heap.size ∧ ∀ j v, (a23L r)[j]? = some v → w.cell? ⟨b, o + i * 15 + j, none⟩ = some v
  wf : ∀ r ∈ xs, r.wf
theorem spot23 {w : World} {a : Addr} {u v : Value} {j : Nat} (h0 : w.cell? (a.add 0) = some u) (h : w.cell? (a.add j) = some v) : ∃ b o, a = ⟨b, o, none⟩ ∧ w.cell? ⟨b, o + j, none⟩ = some v := by
  obtain ⟨b, o, spot⟩ := a
  have hspot := World.cell?_spot h0
  simp [Addr.add] at hspot
  subst hspot
  exact ⟨b, o, rfl, by rwa [show (⟨b, o, none⟩ : Addr).add j = ⟨b, o + j, none⟩ from by unfold Addr.add; split <;> simp_all] at h⟩
set_option maxRecDepth 100000 in
theorem open_acts23 {fuel : Nat} {a : Option Addr} {len cap : Nat} {x : DataW H × List MemPlace} (h : DataW.trod enc Tryz.prog w base (fun _ => true) held fuel 22 [.slice a len cap] = some x) : ∃ xs, A23In w a len xs := by
  rcases Deep.open_slice Tryz.underlying22 h with ⟨hcs, _⟩ | ⟨a', len', cap', m, n, D, Pl, hcs, _, hl, hm, hmm, _, hi⟩
  · have hkv : Value.slice a len cap = .slice none 0 0 := by simpa using hcs
    injection hkv with e1 e2 e3
    subst e1 e2
    exact ⟨[], rfl, fun i f hf => by simp at hf, fun f hf => by simp at hf⟩
  · have hkv : Value.slice a len cap = .slice (some a') len' cap' := by simpa using hcs
    injection hkv with e1 e2 e3
    subst e1 e2
    have hq : ∀ i, ∃ r : A23, i < len → (∀ j v, (a23L r)[j]? = some v → w.cell? (a'.add (i * 15 + j)) = some v) ∧ r.wf := fun i => by
      by_cases hlt : i < len
      · obtain ⟨cs', hc, ht'⟩ := hi i (by rw [hmm]; simp; omega)
        rw [cellsA23] at hc
        obtain ⟨_, hcl, hat⟩ := World.cells?_some hc
        obtain ⟨r, hr, hw⟩ := a23_of hcl ht'
        refine ⟨r, fun _ => ⟨fun j v hj => ?_, hw⟩⟩
        have hj8 : j < 15 := by have := (List.getElem?_eq_some_iff.1 hj).1; simpa using this
        have a0 := hat j hj8
        rw [Deep.add_add, hr] at a0
        exact a0.trans hj
      · exact ⟨⟨0, zSp, ⟨#[]⟩, 0, ⟨0, 0, 0, 0, ⟨#[]⟩⟩, 0, ⟨#[]⟩⟩, fun h => absurd h hlt⟩
    refine ⟨(List.range len).map fun i => Classical.choose (hq i), by simp, fun j r hjr => ?_, fun r hr => ?_⟩
    · have hj : j < len := by
        have := (List.getElem?_eq_some_iff.1 hjr).1
        simpa using this
      have hs := Classical.choose_spec (hq j) hj
      rw [List.getElem?_map, List.getElem?_range hj] at hjr
      have e : Classical.choose (hq j) = r := by simpa using hjr
      rw [e] at hs
      obtain ⟨u0, h00⟩ : ∃ u, w.cell? (a'.add 0) = some u := ⟨_, (Classical.choose_spec (hq 0) (by omega)).1 0 _ rfl⟩
      obtain ⟨b, o, rfl, c0⟩ := spot23 h00 (hs.1 0 _ rfl)
      refine ⟨b, o, rfl, World.block_lt_of_cell? w _ c0, fun i v hv => ?_⟩
      obtain ⟨b', o', e', c1⟩ := spot23 h00 (hs.1 i v hv)
      cases e'
      rw [Nat.add_assoc]
      exact c1
    · obtain ⟨i, hi, rfl⟩ := List.mem_map.1 hr
      exact (Classical.choose_spec (hq i) (List.mem_range.1 hi)).2
end
end Go.Proofs.YtgogackkeodciaaGreat.W
end

/- The acts of layer 19's law that come in, opened. -/
import Derived.Test.YtahljbjgenepaaaOpenRc
namespace Go.Proofs.Ytahljbjgenepaaa.W
open Go.ChangeShapes Go.WideShapes Go.ChangeAt Go.RowKit Go.Sort
open Go.Proofs.Ytahljbjgenepaaa.M Go.Proofs.Ytahljbjgenepaaa.D Go.Proofs.Ytahljbjgenepaaa.Z
set_option linter.unusedVariables false
set_option linter.unusedSimpArgs false

/-- A call that comes in. -/
structure A19 where
  k : Int
  n : Int
  m : Int
  la : Option Addr
  ln : Nat
  lc : Nat
  rs : List Rc
abbrev a19L (x : A19) : List Value := [.int .i64 x.k, .int .i64 x.n, .int .i64 x.m, .slice x.la x.ln x.lc]
/-- What is known of it. -/
structure A19In (w : World) (x : A19) : Prop where
  k : (Lit.int .i64 x.k).wf = true
  n : (Lit.int .i64 x.n).wf = true
  m : (Lit.int .i64 x.m).wf = true
  l : RcIn w x.la x.ln x.rs
theorem cellsA19 : Try.prog.cellsOf 31 = 4 := by kernel_rfl
theorem cellsL19 : Try.prog.cellsOf 27 = 1 := by kernel_rfl
section
variable {H : Type} {enc : TypeId × Value → H} {w : World} {base : Nat} {held : Bool}
theorem open_recs_any {fuel : Nat} {kv : Value} {x : DataW H × List MemPlace} (h : DataW.trod enc Try.prog w base (fun _ => true) held fuel 27 [kv] = some x) : ∃ a len cap rs, kv = .slice a len cap ∧ RcIn w a len rs := by
  rcases Deep.open_slice Try.underlying27 h with ⟨hcs, _⟩ | ⟨a, len, cap, m, n, D, Pl, hcs, _, hl, hm, hmm, _, hi⟩
  · obtain rfl : kv = .slice none 0 0 := by simpa using hcs
    obtain ⟨rs, h2⟩ := open_recs h
    exact ⟨none, 0, 0, rs, rfl, h2⟩
  · obtain rfl : kv = .slice (some a) len cap := by simpa using hcs
    obtain ⟨rs, h2⟩ := open_recs h
    exact ⟨some a, len, cap, rs, rfl, h2⟩
/-- Records that come in, with their capacity. -/
structure RcInC (w : World) (a : Option Addr) (len cap : Nat) (rs : List Rc) : Prop where
  inn : RcIn w a len rs
  le : len ≤ cap
  most : cap ≤ maxLen
  none_ : a = none → cap = 0
  spot : 0 < cap → ∀ ad, a = some ad → ad.spot = none
theorem open_recsc {fuel : Nat} {a : Option Addr} {len cap : Nat} {x : DataW H × List MemPlace} (h : DataW.trod enc Try.prog w base (fun _ => true) held fuel 27 [.slice a len cap] = some x) : ∃ rs, RcInC w a len cap rs := by
  obtain ⟨rs, h1⟩ := open_recs h
  rcases Deep.open_slice Try.underlying27 h with ⟨hcs, _⟩ | ⟨a', len', cap', m, n, D, Pl, hcs, _, hl, hm, hmm, _, hi⟩
  · have hkv : Value.slice a len cap = .slice none 0 0 := by simpa using hcs
    injection hkv with e1 e2 e3
    subst e1 e2 e3
    exact ⟨rs, h1, Nat.le_refl _, Nat.zero_le _, fun _ => rfl, fun h => absurd h (Nat.lt_irrefl _)⟩
  · have hkv : Value.slice a len cap = .slice (some a') len' cap' := by simpa using hcs
    injection hkv with e1 e2 e3
    subst e1 e2 e3
    refine ⟨rs, h1, hl, hm, (fun e => by cases e), fun hp ad e => ?_⟩
    cases e
    obtain ⟨cs', hc, _⟩ := hi 0 (by rw [hmm]; simpa using hp)
    rw [cellsRc] at hc
    obtain ⟨_, hcl, hat⟩ := World.cells?_some hc
    have h0 := hat 0 (by omega)
    have h2 := World.cell?_spot (h0.trans (List.getElem?_eq_getElem (by omega)))
    simpa [Addr.add] using h2
set_option maxRecDepth 100000 in
theorem a19_of {fuel : Nat} {cs : List Value} {x : DataW H × List MemPlace} (hl : cs.length = 4) (hf : DataW.trod enc Try.prog w base (fun _ => true) held fuel 31 cs = some x) : ∃ r : A19, cs = a19L r ∧ A19In w r := by
  match cs, hl with
  | [c0, c1, c2, c3], _ =>
    obtain ⟨xs, n, _, _, _, hlen, hg⟩ := DataW.trod_struct Try.underlying31 hf
    match xs, hlen with
    | [y0, y1, y2, y3], _ =>
      have h0 : DataW.trod enc Try.prog w base (fun _ => true) held n 3 ((([c0, c1, c2, c3] : List Value).drop 0).take (Try.prog.cellsOf 3)) = some y0 := hg 0 _ rfl
      have h1 : DataW.trod enc Try.prog w base (fun _ => true) held n 3 ((([c0, c1, c2, c3] : List Value).drop 1).take (Try.prog.cellsOf 3)) = some y1 := hg 1 _ rfl
      have h2 : DataW.trod enc Try.prog w base (fun _ => true) held n 3 ((([c0, c1, c2, c3] : List Value).drop 2).take (Try.prog.cellsOf 3)) = some y2 := hg 2 _ rfl
      have h3 : DataW.trod enc Try.prog w base (fun _ => true) held n 27 ((([c0, c1, c2, c3] : List Value).drop 3).take (Try.prog.cellsOf 27)) = some y3 := hg 3 _ rfl
      rw [cellsRi] at h0 h1 h2
      rw [cellsL19] at h3
      obtain ⟨x0, e0, _, w0⟩ := DataW.trod_int Try.underlying3 (show DataW.trod enc Try.prog w base (fun _ => true) held n 3 [c0] = some y0 from h0)
      obtain ⟨x1, e1, _, w1⟩ := DataW.trod_int Try.underlying3 (show DataW.trod enc Try.prog w base (fun _ => true) held n 3 [c1] = some y1 from h1)
      obtain ⟨x2, e2, _, w2⟩ := DataW.trod_int Try.underlying3 (show DataW.trod enc Try.prog w base (fun _ => true) held n 3 [c2] = some y2 from h2)
      obtain ⟨a, len, cap, rs, rfl, w3⟩ := open_recs_any (show DataW.trod enc Try.prog w base (fun _ => true) held n 27 [c3] = some y3 from h3)
      simp only [List.cons.injEq, and_true] at e0 e1 e2
      subst e0 e1 e2
      exact ⟨⟨x0, x1, x2, a, len, cap, rs⟩, rfl, w0, w1, w2, w3⟩
set_option maxRecDepth 100000 in
theorem open_a19 {b0 : Nat} {v : Value} {d : DataW H} {p : List MemPlace} (hval : Value.okWide Try.prog w .any b0 31 v) (h : DataW.Trod enc Try.prog w base (fun _ => true) held 31 v d p) : ∃ r : A19, v = .agg #[.int .i64 r.k, .int .i64 r.n, .int .i64 r.m, .slice r.la r.ln r.lc] ∧ A19In w r := by
  obtain ⟨cs, rfl, hsz⟩ := okWide_struct Try.underlying31 hval
  obtain ⟨l⟩ := cs
  rw [cellsA19] at hsz
  obtain ⟨fuel, hf⟩ := h
  obtain ⟨r, hl, hw⟩ := a19_of (fuel := fuel) (cs := l) (by simpa using hsz) hf
  exact ⟨r, by rw [hl], hw⟩
/-- Calls that come in, in a row. -/
structure As19 (w : World) (a : Option Addr) (len : Nat) (xs : List A19) : Prop where
  len : xs.length = len
  at_ : ∀ i r, xs[i]? = some r → ∃ b o, a = some ⟨b, o, none⟩ ∧ b < w.heap.size ∧ ∀ j v, (a19L r)[j]? = some v → w.cell? ⟨b, o + i * 4 + j, none⟩ = some v
  wf : ∀ r ∈ xs, A19In w r
theorem spot19 {w : World} {a : Addr} {u v : Value} {j : Nat} (h0 : w.cell? (a.add 0) = some u) (h : w.cell? (a.add j) = some v) : ∃ b o, a = ⟨b, o, none⟩ ∧ w.cell? ⟨b, o + j, none⟩ = some v := by
  obtain ⟨b, o, spot⟩ := a
  have hspot := World.cell?_spot h0
  simp [Addr.add] at hspot
  subst hspot
  exact ⟨b, o, rfl, by rwa [show (⟨b, o, none⟩ : Addr).add j = ⟨b, o + j, none⟩ from by unfold Addr.add; split <;> simp_all] at h⟩
set_option maxRecDepth 100000 in
theorem open_acts19 {fuel : Nat} {a : Option Addr} {len cap : Nat} {x : DataW H × List MemPlace} (h : DataW.trod enc Try.prog w base (fun _ => true) held fuel 22 [.slice a len cap] = some x) : ∃ xs, As19 w a len xs := by
  rcases Deep.open_slice Try.underlying22 h with ⟨hcs, _⟩ | ⟨a', len', cap', m, n, D, Pl, hcs, _, hl, hm, hmm, _, hi⟩
  · have hkv : Value.slice a len cap = .slice none 0 0 := by simpa using hcs
    injection hkv with e1 e2 e3
    subst e1 e2
    exact ⟨[], rfl, fun i f hf => by simp at hf, fun f hf => by simp at hf⟩
  · have hkv : Value.slice a len cap = .slice (some a') len' cap' := by simpa using hcs
    injection hkv with e1 e2 e3
    subst e1 e2
    have hq : ∀ i, ∃ r : A19, i < len → (∀ j v, (a19L r)[j]? = some v → w.cell? (a'.add (i * 4 + j)) = some v) ∧ A19In w r := fun i => by
      by_cases hlt : i < len
      · obtain ⟨cs', hc, ht'⟩ := hi i (by rw [hmm]; simp; omega)
        rw [cellsA19] at hc
        obtain ⟨_, hcl, hat⟩ := World.cells?_some hc
        obtain ⟨r, hr, hw⟩ := a19_of hcl ht'
        refine ⟨r, fun _ => ⟨fun j v hj => ?_, hw⟩⟩
        have hj8 : j < 4 := by have := (List.getElem?_eq_some_iff.1 hj).1; simpa using this
        have a0 := hat j hj8
        rw [Deep.add_add, hr] at a0
        exact a0.trans hj
      · exact ⟨⟨0, 0, 0, none, 0, 0, []⟩, fun h => absurd h hlt⟩
    refine ⟨(List.range len).map fun i => Classical.choose (hq i), by simp, fun j r hjr => ?_, fun r hr => ?_⟩
    · have hj : j < len := by
        have := (List.getElem?_eq_some_iff.1 hjr).1
        simpa using this
      have hs := Classical.choose_spec (hq j) hj
      rw [List.getElem?_map, List.getElem?_range hj] at hjr
      have e : Classical.choose (hq j) = r := by simpa using hjr
      rw [e] at hs
      obtain ⟨u0, h00⟩ : ∃ u, w.cell? (a'.add 0) = some u := ⟨_, (Classical.choose_spec (hq 0) (by omega)).1 0 _ rfl⟩
      obtain ⟨b, o, rfl, c0⟩ := spot19 h00 (hs.1 0 _ rfl)
      refine ⟨b, o, rfl, World.block_lt_of_cell? w _ c0, fun i v hv => ?_⟩
      obtain ⟨b', o', e', c1⟩ := spot19 h00 (hs.1 i v hv)
      cases e'
      rw [Nat.add_assoc]
      exact c1
    · obtain ⟨i, hi, rfl⟩ := List.mem_map.1 hr
      exact (Classical.choose_spec (hq i) (List.mem_range.1 hi)).2
end
end Go.Proofs.Ytahljbjgenepaaa.W

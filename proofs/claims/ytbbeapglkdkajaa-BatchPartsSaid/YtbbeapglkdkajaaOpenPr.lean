/- Pairs that come in, opened. -/
import Derived.Test.YtbbeapglkdkajaaBtC
import Derived.Test.YtbbeapglkdkajaaOpenRc
namespace Go.Proofs.Ytbbeapglkdkajaa.W
open Go.ChangeShapes Go.WideShapes Go.ChangeAt Go.RowKit Go.Sort
open Go.Proofs.Ytbbeapglkdkajaa.M Go.Proofs.Ytbbeapglkdkajaa.D Go.Proofs.Ytbbeapglkdkajaa.Z
set_option linter.unusedVariables false
set_option linter.unusedSimpArgs false

/-- Pairs that come in. -/
structure PrIn (w : World) (a : Option Addr) (len : Nat) (ps : List Pr) : Prop where
  len : ps.length = len
  at_ : PrAt w a ps
  wf : ∀ p ∈ ps, p.key.size ≤ maxLen ∧ p.val.size ≤ maxLen
theorem cellsPr : Try.prog.cellsOf 26 = 3 := by kernel_rfl
section
variable {H : Type} {enc : TypeId × Value → H} {w : World} {base : Nat} {held : Bool}
set_option maxRecDepth 100000 in
/-- Three cells that are read as a pair. -/
theorem pr_of {fuel : Nat} {cs : List Value} {x : DataW H × List MemPlace} (hl : cs.length = 3) (hf : DataW.trod enc Try.prog w base (fun _ => true) held fuel 26 cs = some x) : ∃ p : Pr, cs = prL p ∧ p.key.size ≤ maxLen ∧ p.val.size ≤ maxLen := by
  match cs, hl with
  | [c0, c1, c2], _ =>
    obtain ⟨xs, n, _, _, _, hlen, hg⟩ := DataW.trod_struct Try.underlying26 hf
    match xs, hlen with
    | [y0, y1, y2], _ =>
      have h0 : DataW.trod enc Try.prog w base (fun _ => true) held n 9 ((([c0, c1, c2] : List Value).drop 0).take (Try.prog.cellsOf 9)) = some y0 := hg 0 _ rfl
      have h1 : DataW.trod enc Try.prog w base (fun _ => true) held n 9 ((([c0, c1, c2] : List Value).drop 1).take (Try.prog.cellsOf 9)) = some y1 := hg 1 _ rfl
      have h2 : DataW.trod enc Try.prog w base (fun _ => true) held n 4 ((([c0, c1, c2] : List Value).drop 2).take (Try.prog.cellsOf 4)) = some y2 := hg 2 _ rfl
      rw [cellsRs] at h0 h1
      rw [cellsRb] at h2
      obtain ⟨x0, e0, _, w0⟩ := DataW.trod_string Try.underlying9 (show DataW.trod enc Try.prog w base (fun _ => true) held n 9 [c0] = some y0 from h0)
      obtain ⟨x1, e1, _, w1⟩ := DataW.trod_string Try.underlying9 (show DataW.trod enc Try.prog w base (fun _ => true) held n 9 [c1] = some y1 from h1)
      obtain ⟨x2, e2, _⟩ := DataW.trod_bool Try.underlying4 (show DataW.trod enc Try.prog w base (fun _ => true) held n 4 [c2] = some y2 from h2)
      simp only [List.cons.injEq, and_true] at e0 e1 e2
      subst e0 e1 e2
      exact ⟨⟨x0, x1, x2⟩, rfl, w0, w1⟩
set_option maxRecDepth 100000 in
theorem open_prs {fuel : Nat} {a : Option Addr} {len cap : Nat} {x : DataW H × List MemPlace} (h : DataW.trod enc Try.prog w base (fun _ => true) held fuel 22 [.slice a len cap] = some x) : ∃ ps, PrIn w a len ps := by
  rcases Deep.open_slice Try.underlying22 h with ⟨hcs, _⟩ | ⟨a', len', cap', m, n, D, Pl, hcs, _, hl, hm, hmm, _, hi⟩
  · have hkv : Value.slice a len cap = .slice none 0 0 := by simpa using hcs
    injection hkv with e1 e2 e3
    subst e1 e2
    exact ⟨[], rfl, fun i f hf => by simp at hf, fun f hf => by simp at hf⟩
  · have hkv : Value.slice a len cap = .slice (some a') len' cap' := by simpa using hcs
    injection hkv with e1 e2 e3
    subst e1 e2
    have hq : ∀ i, ∃ p : Pr, i < len → (∀ j v, (prL p)[j]? = some v → w.cell? (a'.add (i * 3 + j)) = some v) ∧ p.key.size ≤ maxLen ∧ p.val.size ≤ maxLen := fun i => by
      by_cases hlt : i < len
      · obtain ⟨cs', hc, ht'⟩ := hi i (by rw [hmm]; simp; omega)
        rw [cellsPr] at hc
        obtain ⟨_, hcl, hat⟩ := World.cells?_some hc
        obtain ⟨r, hr, hw⟩ := pr_of hcl ht'
        refine ⟨r, fun _ => ⟨fun j v hj => ?_, hw⟩⟩
        have hj8 : j < 3 := by have := (List.getElem?_eq_some_iff.1 hj).1; simpa using this
        have a0 := hat j hj8
        rw [Deep.add_add, hr] at a0
        exact a0.trans hj
      · exact ⟨⟨⟨#[]⟩, ⟨#[]⟩, false⟩, fun h => absurd h hlt⟩
    refine ⟨(List.range len).map fun i => Classical.choose (hq i), by simp, fun j r hjr => ?_, fun r hr => ?_⟩
    · have hj : j < len := by
        have := (List.getElem?_eq_some_iff.1 hjr).1
        simpa using this
      have hs := Classical.choose_spec (hq j) hj
      rw [List.getElem?_map, List.getElem?_range hj] at hjr
      have e : Classical.choose (hq j) = r := by simpa using hjr
      rw [e] at hs
      obtain ⟨u0, h00⟩ : ∃ u, w.cell? (a'.add 0) = some u := ⟨_, (Classical.choose_spec (hq 0) (by omega)).1 0 _ rfl⟩
      obtain ⟨b, o, rfl, c0⟩ := spotR h00 (hs.1 0 _ rfl)
      refine ⟨b, o, rfl, World.block_lt_of_cell? w _ c0, fun i v hv => ?_⟩
      obtain ⟨b', o', e', c1⟩ := spotR h00 (hs.1 i v hv)
      cases e'
      rw [Nat.add_assoc]
      exact c1
    · obtain ⟨i, hi, rfl⟩ := List.mem_map.1 hr
      exact (Classical.choose_spec (hq i) (List.mem_range.1 hi)).2
end
end Go.Proofs.Ytbbeapglkdkajaa.W

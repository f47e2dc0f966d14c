/- Keeps and acts that come in, opened. -/
import Derived.Test.YtgomhnclmacleaaProg
import Derived.Test.YtgomhnclmacleaaActText
import Derived.OpenShut
import Derived.ProofKit
import Derived.Deep.Slices
import Derived.ChangeSame
import Derived.WideShapes
namespace Go.Proofs.Ytgomhnclmacleaa.D
open Go.ChangeShapes Go.WideShapes Go.ChangeAt Go.RowKit
set_option linter.unusedVariables false

theorem spotless {w : World} {a : Addr} {u v : Value} {j : Nat} (h0 : w.cell? (a.add 0) = some u) (h : w.cell? (a.add j) = some v) : ∃ b o, a = ⟨b, o, none⟩ ∧ w.cell? ⟨b, o + j, none⟩ = some v := by
  obtain ⟨b, o, spot⟩ := a
  have hspot := World.cell?_spot h0
  simp [Addr.add] at hspot
  subst hspot
  exact ⟨b, o, rfl, by rwa [show (⟨b, o, none⟩ : Addr).add j = ⟨b, o + j, none⟩ from by unfold Addr.add; split <;> simp_all] at h⟩
theorem cellsKeep : Try.prog.cellsOf 52 = 2 := by kernel_rfl
theorem cellsAct : Try.prog.cellsOf 36 = 5 := by kernel_rfl
theorem cellsInt : Try.prog.cellsOf 3 = 1 := by kernel_rfl
theorem cellsU8 : Try.prog.cellsOf 5 = 1 := by kernel_rfl
theorem cellsKs : Try.prog.cellsOf 34 = 1 := by kernel_rfl
section
variable {H : Type} {enc : TypeId × Value → H} {w : World} {base : Nat} {held : Bool}
set_option maxRecDepth 100000 in
theorem open_keeps {fuel : Nat} {kv : Value} {x : DataW H × List MemPlace} (h : DataW.trod enc Try.prog w base (fun _ => true) held fuel 34 [kv] = some x) : ∃ kl, Keeps w kv kl := by
  rcases Deep.open_slice Try.underlying34 h with ⟨hcs, _⟩ | ⟨a, len, cap, m, n, D, Pl, hcs, _, hl, hm, hmm, _, hi⟩
  · have hkv : kv = .slice none 0 0 := by simpa using hcs
    exact ⟨[], ⟨none, 0, hkv, by decide, by decide, fun j q hq => by simp at hq⟩⟩
  · have hkv : kv = .slice (some a) len cap := by simpa using hcs
    have hq : ∀ i, ∃ q : Int × Int, i < len → w.cell? (a.add (i * 2)) = some (.int .i64 q.1) ∧ w.cell? (a.add (i * 2 + 1)) = some (.int .i64 q.2) := fun i => by
      by_cases hlt : i < len
      · obtain ⟨cs', hc, ht'⟩ := hi i (by rw [hmm]; simp; omega)
        rw [cellsKeep] at hc
        obtain ⟨_, hcl, hat⟩ := World.cells?_some hc
        obtain ⟨y0, y1, n', _, _, h0, h1⟩ := trod_struct2 Try.underlying52 ht'
        match cs', hcl with
        | [c0, c1], _ =>
          have g0 : DataW.trod enc Try.prog w base (fun _ => true) held n' 3 [c0] = some y0 := by rw [cellsInt] at h0; exact h0
          have g1 : DataW.trod enc Try.prog w base (fun _ => true) held n' 3 [c1] = some y1 := by rw [cellsInt] at h1; exact h1
          obtain ⟨x0, e0, _, _⟩ := DataW.trod_int Try.underlying3 g0
          obtain ⟨x1, e1, _, _⟩ := DataW.trod_int Try.underlying3 g1
          simp only [List.cons.injEq, and_true] at e0 e1
          have a0 := hat 0 (by omega)
          have a1 := hat 1 (by omega)
          rw [Deep.add_add] at a0 a1
          exact ⟨(x0, x1), fun _ => ⟨by rw [Nat.add_zero] at a0; rw [a0, e0]; rfl, by rw [a1, e1]; rfl⟩⟩
      · exact ⟨(0, 0), fun h => absurd h hlt⟩
    refine ⟨(List.range len).map fun i => Classical.choose (hq i), ⟨some a, cap, by simpa using hkv, by simpa using hl, hm, fun j q hjq => ?_⟩⟩
    have hj : j < len := by
      have := (List.getElem?_eq_some_iff.1 hjq).1
      simpa using this
    have hs := Classical.choose_spec (hq j) hj
    rw [List.getElem?_map, List.getElem?_range hj] at hjq
    have e : Classical.choose (hq j) = q := by simpa using hjq
    rw [e] at hs
    obtain ⟨u0, h00⟩ : ∃ u, w.cell? (a.add 0) = some u := ⟨_, (Classical.choose_spec (hq 0) (by omega)).1⟩
    obtain ⟨b, o, rfl, c0⟩ := spotless h00 hs.1
    obtain ⟨b', o', e', c1⟩ := spotless h00 hs.2
    cases e'
    exact ⟨b, o, rfl, World.block_lt_of_cell? w _ c0, c0, c1⟩
set_option maxRecDepth 100000 in
theorem open_act {b0 : Nat} {v : Value} {d : DataW H} {p : List MemPlace} (hval : Value.okWide Try.prog w .any b0 36 v) (h : DataW.Trod enc Try.prog w base (fun _ => true) held 36 v d p) :
    ∃ k at_ n c kv kl, v = .agg #[.int .i64 k, .int .i64 at_, .int .i64 n, .int .u8 c, kv] ∧ (Lit.int .i64 k).wf = true ∧ (Lit.int .i64 at_).wf = true ∧ (Lit.int .i64 n).wf = true ∧ (Lit.int .u8 c).wf = true ∧ Keeps w kv kl := by
  obtain ⟨cs, rfl, hsz⟩ := okWide_struct Try.underlying36 hval
  obtain ⟨l⟩ := cs
  rw [cellsAct] at hsz
  match l, hsz with
  | [c0, c1, c2, c3, c4], _ =>
    obtain ⟨fuel, hf⟩ := h
    obtain ⟨xs, n, _, _, _, hlen, hg⟩ := DataW.trod_struct Try.underlying36 hf
    match xs, hlen with
    | [y0, y1, y2, y3, y4], _ =>
      have h0 : DataW.trod enc Try.prog w base (fun _ => true) held n 3 ((([c0, c1, c2, c3, c4] : List Value).drop 0).take (Try.prog.cellsOf 3)) = some y0 := hg 0 _ rfl
      have h1 : DataW.trod enc Try.prog w base (fun _ => true) held n 3 ((([c0, c1, c2, c3, c4] : List Value).drop 1).take (Try.prog.cellsOf 3)) = some y1 := hg 1 _ rfl
      have h2 : DataW.trod enc Try.prog w base (fun _ => true) held n 3 ((([c0, c1, c2, c3, c4] : List Value).drop 2).take (Try.prog.cellsOf 3)) = some y2 := hg 2 _ rfl
      have h3 : DataW.trod enc Try.prog w base (fun _ => true) held n 5 ((([c0, c1, c2, c3, c4] : List Value).drop 3).take (Try.prog.cellsOf 5)) = some y3 := hg 3 _ rfl
      have h4 : DataW.trod enc Try.prog w base (fun _ => true) held n 34 ((([c0, c1, c2, c3, c4] : List Value).drop 4).take (Try.prog.cellsOf 34)) = some y4 := hg 4 _ rfl
      rw [cellsInt] at h0 h1 h2
      rw [cellsU8] at h3
      rw [cellsKs] at h4
      obtain ⟨x0, e0, _, w0⟩ := DataW.trod_int Try.underlying3 (show DataW.trod enc Try.prog w base (fun _ => true) held n 3 [c0] = some y0 from h0)
      obtain ⟨x1, e1, _, w1⟩ := DataW.trod_int Try.underlying3 (show DataW.trod enc Try.prog w base (fun _ => true) held n 3 [c1] = some y1 from h1)
      obtain ⟨x2, e2, _, w2⟩ := DataW.trod_int Try.underlying3 (show DataW.trod enc Try.prog w base (fun _ => true) held n 3 [c2] = some y2 from h2)
      obtain ⟨x3, e3, _, w3⟩ := DataW.trod_int Try.underlying5 (show DataW.trod enc Try.prog w base (fun _ => true) held n 5 [c3] = some y3 from h3)
      obtain ⟨kl, hk⟩ := open_keeps (show DataW.trod enc Try.prog w base (fun _ => true) held n 34 [c4] = some y4 from h4)
      simp only [List.cons.injEq, and_true] at e0 e1 e2 e3
      subst e0 e1 e2 e3
      exact ⟨x0, x1, x2, x3, c4, kl, rfl, w0, w1, w2, w3, hk⟩
end
/-- A byte of a number. -/
theorem byte_of {c : Int} (h : (Lit.int .u8 c).wf = true) : ∃ b : UInt8, c = (b.toNat : Int) := by
  have hb : IntKind.u8.min ≤ c ∧ c ≤ IntKind.u8.max := by simpa [Lit.wf] using h
  have h1 : IntKind.u8.min = 0 := by decide
  have h2 : IntKind.u8.max = 255 := by decide
  rw [h1, h2] at hb
  refine ⟨UInt8.ofNat c.toNat, ?_⟩
  rw [UInt8.toNat_ofNat_of_lt' (by simp [UInt8.size]; omega)]
  omega
end Go.Proofs.Ytgomhnclmacleaa.D

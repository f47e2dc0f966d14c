/- Calls of a pool that come in, opened. -/
import Derived.Test.YtoegohofmhijgaaProg
import Derived.OpenShut
import Derived.ProofKit
import Derived.Deep.Slices
import Derived.ChangeSame
import Derived.WideShapes
import Derived.Below
import Derived.RowKit
namespace Go.Proofs.Ytoegohofmhijgaa.W
open Go.ChangeShapes Go.WideShapes Go.ChangeAt Go.RowKit
set_option linter.unusedVariables false

/-- A call: its kind, segment and log. -/
structure PAct where
  kind : Int
  seg : Int
  log : Int
/-- What is known of a []Act that came in. -/
structure PActs (w : World) (a : Option Addr) (n cap : Nat) (r : Nat → PAct) : Prop where
  le : n ≤ cap
  max : cap ≤ maxLen
  cell : ∀ k, k < n → ∃ b o, a = some ⟨b, o, none⟩ ∧ w.cell? ⟨b, o + k * 3, none⟩ = some (.int .i64 (r k).kind) ∧ w.cell? ⟨b, o + k * 3 + 1, none⟩ = some (.int .i64 (r k).seg) ∧ w.cell? ⟨b, o + k * 3 + 2, none⟩ = some (.int .i64 (r k).log)
theorem cellsPAct : Try.prog.cellsOf 35 = 3 := by kernel_rfl
theorem cellsPI : Try.prog.cellsOf 3 = 1 := by kernel_rfl
theorem spotlessP {w : World} {a : Addr} {u v : Value} {j : Nat} (h0 : w.cell? (a.add 0) = some u) (h : w.cell? (a.add j) = some v) : ∃ b o, a = ⟨b, o, none⟩ ∧ w.cell? ⟨b, o + j, none⟩ = some v := by
  obtain ⟨b, o, spot⟩ := a
  have hspot := World.cell?_spot h0
  simp [Addr.add] at hspot
  subst hspot
  exact ⟨b, o, rfl, by rwa [show (⟨b, o, none⟩ : Addr).add j = ⟨b, o + j, none⟩ from by unfold Addr.add; split <;> simp_all] at h⟩
section
variable {H : Type} {enc : TypeId × Value → H} {w : World} {base : Nat} {held : Bool}
set_option maxRecDepth 100000 in
theorem open_pacts {a : Option Addr} {len cap : Nat} {d : DataW H} {p : List MemPlace} (h : DataW.Trod enc Try.prog w base (fun _ => true) held 23 (.slice a len cap) d p) : ∃ r, PActs w a len cap r := by
  obtain ⟨fuel, hf⟩ := h
  rcases Deep.open_slice Try.underlying23 hf with ⟨hcs, _⟩ | ⟨x, l, c, m, n, D, Pl, hcs, _, hl, hm, hmm, _, hi⟩
  · simp [Value.cells] at hcs
    obtain ⟨rfl, rfl, rfl⟩ := hcs
    exact ⟨fun _ => ⟨0, 0, 0⟩, by omega, by decide, fun k hk => absurd hk (Nat.not_lt_zero k)⟩
  · simp [Value.cells] at hcs
    obtain ⟨rfl, rfl, rfl⟩ := hcs
    have hq : ∀ i, ∃ q : PAct, i < len → w.cell? (x.add (i * 3)) = some (.int .i64 q.kind) ∧ w.cell? (x.add (i * 3 + 1)) = some (.int .i64 q.seg) ∧ w.cell? (x.add (i * 3 + 2)) = some (.int .i64 q.log) := fun i => by
      by_cases hlt : i < len
      · obtain ⟨cs', hc, ht'⟩ := hi i (by rw [hmm]; simp; omega)
        rw [cellsPAct] at hc
        obtain ⟨_, hcl, hat⟩ := World.cells?_some hc
        obtain ⟨xs, n', _, _, _, hlen, hfs⟩ := DataW.trod_struct Try.underlying35 ht'
        match xs, hlen, cs', hcl with
        | [y0, y1, y2], _, [c0, c1, c2], _ =>
          have h0 := hfs 0 _ rfl
          have h1 := hfs 1 _ rfl
          have h2 := hfs 2 _ rfl
          have g0 : DataW.trod enc Try.prog w base (fun _ => true) held n' 3 [c0] = some y0 := by simpa [cellsPI] using h0
          have g1 : DataW.trod enc Try.prog w base (fun _ => true) held n' 3 [c1] = some y1 := by simpa [cellsPI] using h1
          have g2 : DataW.trod enc Try.prog w base (fun _ => true) held n' 3 [c2] = some y2 := by simpa [cellsPI] using h2
          obtain ⟨x0, e0, _, _⟩ := DataW.trod_int Try.underlying3 g0
          obtain ⟨x1, e1, _, _⟩ := DataW.trod_int Try.underlying3 g1
          obtain ⟨x2, e2, _, _⟩ := DataW.trod_int Try.underlying3 g2
          simp only [List.cons.injEq, and_true] at e0 e1 e2
          have a0 := hat 0 (by omega)
          have a1 := hat 1 (by omega)
          have a2 := hat 2 (by omega)
          rw [Deep.add_add] at a0 a1 a2
          exact ⟨⟨x0, x1, x2⟩, fun _ => ⟨by rw [Nat.add_zero] at a0; rw [a0, e0]; rfl, by rw [a1, e1]; rfl, by rw [a2, e2]; rfl⟩⟩
      · exact ⟨⟨0, 0, 0⟩, fun h => absurd h hlt⟩
    refine ⟨fun i => Classical.choose (hq i), hl, hm, fun k hk => ?_⟩
    have hs := Classical.choose_spec (hq k) hk
    obtain ⟨u0, h00⟩ : ∃ u, w.cell? (x.add 0) = some u := by
      have := (Classical.choose_spec (hq 0) (by omega)).1
      exact ⟨_, this⟩
    obtain ⟨b, o, rfl, c0⟩ := spotlessP h00 hs.1
    obtain ⟨b', o', e', c1⟩ := spotlessP h00 hs.2.1
    cases e'
    obtain ⟨b', o', e', c2⟩ := spotlessP h00 hs.2.2
    cases e'
    exact ⟨b, o, rfl, c0, c1, c2⟩
end
end Go.Proofs.Ytoegohofmhijgaa.W

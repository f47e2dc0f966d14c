/- A slice of slices of bools that comes in, opened; nothing of the program's code. -/
import Derived.Test.YtdagbepjhbmlfaaTable
import Derived.Deep.Grids
import Derived.OpenShut
import Derived.ProofKit
namespace Go.Proofs.Ytdagbepjhbmlfaa.L
open Go.ChangeShapes Go.WideShapes Go.ChangeAt Go.RowKit
set_option linter.unusedVariables false
theorem spotless {w : World} {a : Addr} {u v : Value} {j : Nat} (h0 : w.cell? (a.add 0) = some u) (h : w.cell? (a.add j) = some v) : ∃ b o, a = ⟨b, o, none⟩ ∧ w.cell? ⟨b, o + j, none⟩ = some v := by
  obtain ⟨b, o, spot⟩ := a
  have hspot := World.cell?_spot h0
  simp [Addr.add] at hspot
  subst hspot
  exact ⟨b, o, rfl, by rwa [show (⟨b, o, none⟩ : Addr).add j = ⟨b, o + j, none⟩ from by unfold Addr.add; split <;> simp_all] at h⟩
section
variable {H : Type} {enc : TypeId × Value → H} {P : Program} {w : World} {base : Nat} {held : Bool}
theorem open_grid {t e q : TypeId} {a : Option Addr} {len cap : Nat} {d : DataW H} {p : List MemPlace} (ht : P.underlying t = some (.slice e)) (he : P.underlying e = some (.slice q)) (hq : P.underlying q = some .bool) (ce : P.cellsOf e = 1) (cq : P.cellsOf q = 1)
    (h : DataW.Trod enc P w base (fun _ => true) held t (.slice a len cap) d p) : ∃ A L C B, Tab w a len A L C B := by
  obtain ⟨fuel, hf⟩ := h
  rcases Deep.open_bool_rows ht he hq ce cq hf with ⟨hcs, _⟩ | ⟨x, l, c, A, L, C, B, hcs, _, hl, hm, _, hr⟩
  · simp [Value.cells] at hcs
    obtain ⟨rfl, rfl, rfl⟩ := hcs
    exact ⟨fun _ => none, fun _ => 0, fun _ => 0, fun _ _ => false, ⟨Nat.zero_le _, fun r hr => by omega, fun r c hr => by omega⟩⟩
  · simp [Value.cells] at hcs
    obtain ⟨rfl, rfl, rfl⟩ := hcs
    refine ⟨A, L, C, B, ⟨Nat.le_trans hl hm, fun r hr' => ?_, fun r c hr' hc => ?_⟩⟩
    · obtain ⟨h1, h2, h3, _⟩ := hr r (by omega)
      obtain ⟨b, o, rfl, h5⟩ := spotless (hr 0 (by omega)).1 h1
      exact ⟨b, o, rfl, h5, Nat.le_trans h2 h3⟩
    · obtain ⟨h1, h2, h3, h4, h5⟩ := hr r (by omega)
      cases hA : A r with
      | none => have := h4 hA; omega
      | some a' =>
        obtain ⟨_, h6⟩ := h5 a' hA
        obtain ⟨b, o, rfl, h7⟩ := spotless (h6 0 (by omega)) (h6 c (by omega))
        exact ⟨b, o, rfl, h7⟩
end
end Go.Proofs.Ytdagbepjhbmlfaa.L

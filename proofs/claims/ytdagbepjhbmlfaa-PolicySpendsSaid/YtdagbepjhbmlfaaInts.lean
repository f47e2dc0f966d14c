/- Rows of integers that come in; nothing of the program but its types. -/
import Derived.Test.YtdagbepjhbmlfaaProg
import Derived.OpenShut
import Derived.ProofKit
import Derived.ChangeSlices
import Derived.WideShapes
import Derived.Below
namespace Go.Proofs.Ytdagbepjhbmlfaa.I
open Go.ChangeShapes Go.WideShapes Go.ChangeAt Go.RowKit
set_option linter.unusedVariables false

/-- What is known of a []int that came in. -/
structure Ints (w : World) (a : Option Addr) (n cap : Nat) (z : Nat → Int) : Prop where
  le : n ≤ cap
  max : cap ≤ maxLen
  cell : ∀ k, k < n → ∃ b o, a = some ⟨b, o, none⟩ ∧ w.cell? ⟨b, o + k, none⟩ = some (.int .i64 (z k))
  fits : ∀ k, k < n → (Lit.int .i64 (z k)).wf = true
theorem Ints.fit {w : World} {a : Option Addr} {n cap : Nat} {z : Nat → Int} (h : Ints w a n cap z) {k : Nat} (hk : k < n) : -9223372036854775808 ≤ z k ∧ z k ≤ 9223372036854775807 := by
  have hb : IntKind.i64.min ≤ z k ∧ z k ≤ IntKind.i64.max := by simpa [Lit.wf] using h.fits k hk
  have h1 : IntKind.i64.min = -9223372036854775808 := by decide
  have h2 : IntKind.i64.max = 9223372036854775807 := by decide
  rw [h1, h2] at hb
  exact hb
theorem keepCell' {w w' : World} {p : Addr} {v : Value} (hb : Below w.heap.size w w') (h : w.cell? p = some v) : w'.cell? p = some v := (hb.cell (World.block_lt_of_cell? w p h)).trans h
theorem Ints.below {w w' : World} {a : Option Addr} {n cap : Nat} {z : Nat → Int} (h : Ints w a n cap z) (hb : Below w.heap.size w w') : Ints w' a n cap z :=
  ⟨h.le, h.max, fun k hk => (h.cell k hk).elim fun b h1 => h1.elim fun o h2 => ⟨b, o, h2.1, keepCell' hb h2.2⟩, h.fits⟩
theorem cellsInt' : Try.prog.cellsOf 3 = 1 := by kernel_rfl
section
variable {H : Type} {enc : TypeId × Value → H} {w : World} {base : Nat} {held : Bool}
theorem open_nums {a : Option Addr} {len cap : Nat} {d : DataW H} {p : List MemPlace}
    (h : DataW.Trod enc Try.prog w base (fun _ => true) held 74 (.slice a len cap) d p) : ∃ z, Ints w a len cap z := by
  obtain ⟨fuel, hf⟩ := h
  rcases open_ints Try.underlying74 Try.underlying3 cellsInt' hf with ⟨hcs, _⟩ | ⟨x, l, c, zs, hcs, _, hl, hm, hz, _, hcell, hws⟩
  · simp [Value.cells] at hcs
    obtain ⟨rfl, rfl, rfl⟩ := hcs
    exact ⟨fun _ => 0, by omega, by decide, fun k hk => absurd hk (Nat.not_lt_zero k), fun k hk => absurd hk (Nat.not_lt_zero k)⟩
  · simp [Value.cells] at hcs
    obtain ⟨rfl, rfl, rfl⟩ := hcs
    have hz' : zs.length = cap := by simpa using hz
    refine ⟨fun k => zs.getD k 0, hl, hm, fun k hk => ?_, fun k hk => hws _ ?_⟩
    · have h0 := hcell 0 (by omega)
      have h1 := hcell k (by omega)
      obtain ⟨b, o, spot⟩ := x
      have hspot := World.cell?_spot h0
      simp [Addr.add] at hspot
      subst hspot
      exact ⟨b, o, rfl, by rwa [show (⟨b, o, none⟩ : Addr).add k = ⟨b, o + k, none⟩ from by unfold Addr.add; split <;> simp_all] at h1⟩
    · rw [List.getD_eq_getElem?_getD, List.getElem?_eq_getElem (by omega)]
      exact List.getElem_mem _
end
end Go.Proofs.Ytdagbepjhbmlfaa.I

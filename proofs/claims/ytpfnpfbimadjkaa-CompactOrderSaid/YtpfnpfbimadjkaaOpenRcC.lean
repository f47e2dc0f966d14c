/- Records that come in with their capacity, opened. -/
import Derived.Test.YtpfnpfbimadjkaaOpenRc

namespace Go.Proofs.Ytpfnpfbimadjkaa.W
open Go.ChangeShapes Go.WideShapes Go.ChangeAt Go.RowKit Go.Sort
open Go.Proofs.Ytpfnpfbimadjkaa.M Go.Proofs.Ytpfnpfbimadjkaa.D Go.Proofs.Ytpfnpfbimadjkaa.Z
set_option linter.unusedVariables false
set_option linter.unusedSimpArgs false

/-- Records that come in, with their capacity. -/
structure RcInC (w : World) (a : Option Addr) (len cap : Nat) (rs : List Rc) : Prop where
  inn : RcIn w a len rs
  le : len ≤ cap
  most : cap ≤ maxLen
  none_ : a = none → cap = 0
  spot : 0 < cap → ∀ ad, a = some ad → ad.spot = none
section
variable {H : Type} {enc : TypeId × Value → H} {w : World} {base : Nat} {held : Bool}
set_option maxRecDepth 100000 in
theorem open_recsc {fuel : Nat} {a : Option Addr} {len cap : Nat} {x : DataW H × List MemPlace} (h : DataW.trod enc Try.prog w base (fun _ => true) held fuel 22 [.slice a len cap] = some x) : ∃ rs, RcInC w a len cap rs := by
  obtain ⟨rs, h1⟩ := open_recs h
  rcases Deep.open_slice Try.underlying22 h with ⟨hcs, _⟩ | ⟨a', len', cap', m, n, D, Pl, hcs, _, hl, hm, hmm, _, hi⟩
  · have hkv : Value.slice a len cap = .slice none 0 0 := by simpa using hcs
    injection hkv with e1 e2 e3
    subst e1 e2 e3
    exact ⟨rs, h1, Nat.le_refl _, Nat.zero_le _, fun _ => rfl, fun h => absurd h (Nat.lt_irrefl _)⟩
  · have hkv : Value.slice a len cap = .slice (some a') len' cap' := by simpa using hcs
    injection hkv with e1 e2 e3
    subst e1 e2 e3
    refine ⟨rs, h1, hl, hm, (fun e => by cases e), fun hp ad e => ?_⟩
    cases e
    obtain ⟨cs', hc, _⟩ := hi 0 (by rw [hmm]; simpa using hp)
    rw [cellsRc] at hc
    obtain ⟨_, hcl, hat⟩ := World.cells?_some hc
    have h0 := hat 0 (by omega)
    have h2 := World.cell?_spot (h0.trans (List.getElem?_eq_getElem (by omega)))
    simpa [Addr.add] using h2
end
end Go.Proofs.Ytpfnpfbimadjkaa.W

/- The definition's records: Decode. -/
import Derived.Test.YtpfnpfbimadjkaaRcK
import Derived.Test.YtpfnpfbimadjkaaRcJ
import Derived.Test.YtpfnpfbimadjkaaStops
import Derived.Deep.Cut
import Derived.Test.YtpfnpfbimadjkaaCells
namespace Go.Proofs.Ytpfnpfbimadjkaa.W
open Go.RowKit Go.Sort
open Go.Proofs.Ytpfnpfbimadjkaa.M Go.Proofs.Ytpfnpfbimadjkaa.D Go.Proofs.Ytpfnpfbimadjkaa.Z
set_option linter.unusedVariables false
set_option linter.unusedSimpArgs false

theorem txAt_some {s x : ByteArray} {p q : Nat} (h : txAt s p = some (x, q)) : ∃ n : Nat, untx (s.extract p s.size) = (x, (n : Int), 0) ∧ q = p + n := by
  unfold txAt at h
  obtain ⟨a, n, e, hU⟩ : ∃ v n x, untx (s.extract p s.size) = (v, n, x) := ⟨_, _, _, rfl⟩
  rw [hU] at h ⊢
  dsimp only at h
  by_cases he : e = 0
  · subst he
    rw [if_pos rfl] at h
    simp only [Option.some.injEq, Prod.mk.injEq] at h
    obtain ⟨rfl, rfl⟩ := h
    have := (untx_back _ _ _ hU).1
    exact ⟨n.toNat, by rw [Int.toNat_of_nonneg (by omega)], rfl⟩
  · rw [if_neg he] at h; cases h
theorem txAt_none {s : ByteArray} {p : Nat} (h : txAt s p = none) : ∃ a n e, untx (s.extract p s.size) = (a, n, e) ∧ e ≠ 0 := by
  unfold txAt at h
  obtain ⟨a, n, e, hU⟩ : ∃ v n x, untx (s.extract p s.size) = (v, n, x) := ⟨_, _, _, rfl⟩
  rw [hU] at h
  exact ⟨a, n, e, hU, fun he => by dsimp only at h; rw [if_pos he] at h; cases h⟩
end Go.Proofs.Ytpfnpfbimadjkaa.W

/- The maps by pairs of labels: what their keys read as, and what they tell behind some rounds. -/
import Derived.Test.YtdagbepjhbmlfaaProg
import Derived.Test.YtdagbepjhbmlfaaLatMath
import Derived.KernelRfl
import Derived.Maps.OwnSet
import Derived.DeepKeys4
namespace Go.Proofs.Ytdagbepjhbmlfaa.L
open Go.RowKit
open Go.Maps (Keyed)
set_option linter.unusedVariables false

theorem laid : laidOutB Try.prog = true := by kernel_rfl
theorem pairRow : (154 : TypeId) < Try.prog.types.size := of_decide_eq_true (by kernel_rfl)
theorem pairLaw : Keyed Try.prog 154 := Keyed.of_law (deep_law_laid laid (m := 3) (by omega) pairRow (by kernel_rfl) (by kernel_rfl))
def pairV (a b : Nat) : Value := .agg #[.int .i64 a, .int .i64 b]
def kl (a b : Nat) : Lit := .string (keyBytes [.int .i64 a, .int .i64 b])
theorem pairs36 : ((List.range 6).map fun a => (List.range 6).map fun b => keyOf Try.prog 154 (pairV a b)) = (List.range 6).map fun a => (List.range 6).map fun b => some (kl a b) := by kernel_rfl
theorem kl_of {a b : Nat} (ha : a < 6) (hb : b < 6) : keyOf Try.prog 154 (pairV a b) = some (kl a b) := by
  have h1 := congrArg (fun l => (l.getD a []).getD b none) pairs36
  simpa [List.getD, List.getElem?_map, List.getElem?_range, ha, hb] using h1
theorem kl_key (a b : Nat) : WideAt.IsKeyLit (kl a b) := trivial
theorem kl_inj {a b c d : Nat} (ha : a < 6) (hb : b < 6) (hc : c < 6) (hd : d < 6) (h : kl a b = kl c d) : a = c ∧ b = d := by
  have h1 := kl_of ha hb
  rw [h] at h1
  have h2 := pairLaw.inj h1 (kl_of hc hd)
  simp [pairV] at h2
  omega
theorem place_inj {n a b c d : Nat} (hb : b < n) (hd : d < n) (h : a * n + b = c * n + d) : a = c ∧ b = d := by
  have e1 : (a * n + b) / n = a := by rw [Nat.add_comm, Nat.add_mul_div_right _ _ (by omega), Nat.div_eq_of_lt hb]; omega
  have e2 : (c * n + d) / n = c := by rw [Nat.add_comm, Nat.add_mul_div_right _ _ (by omega), Nat.div_eq_of_lt hd]; omega
  have e : a = c := by rw [← e1, ← e2, h]
  subst e
  exact ⟨rfl, by omega⟩

abbrev numD (c : Nat) : DataW Unit := .lit (.int .i64 (c : Int))
/-- What the map tells when m pairs, row by row, are done. -/
structure Told (n : Nat) (R : Nat → Nat → Bool) (m : Nat) (D : DataW Unit) : Prop where
  tidy : Maps.Tidy D
  tells : ∀ a b c, a < n → b < n → a * n + b < m → near n R a b = some c → ∀ z, D.atKey (kl a b) z = numD c
  free : ∀ a b, a < n → b < n → m ≤ a * n + b → Maps.has D (kl a b) = false
  most : Maps.size D ≤ m
  whole : Maps.size D = m ↔ ∀ a b, a < n → b < n → a * n + b < m → (near n R a b).isSome = true
theorem told_nil (n : Nat) (R : Nat → Nat → Bool) : Told n R 0 (.map []) :=
  ⟨Maps.tidy_empty, fun _ _ _ _ _ h => by omega, fun _ _ _ _ _ => rfl, Nat.le_refl _, ⟨fun _ _ _ _ _ h => by omega, fun _ => rfl⟩⟩
theorem told_skip {n m a b : Nat} {R : Nat → Nat → Bool} {D : DataW Unit} (h : Told n R m D) (hm : m = a * n + b) (ha : a < n) (hb : b < n) (hn : near n R a b = none) : Told n R (m + 1) D := by
  have hsz := h.most
  refine ⟨h.tidy, fun x y c hx hy hlt hc z => ?_, fun x y hx hy hle => h.free x y hx hy (by omega), by omega, ⟨fun he => by omega, fun hall => ?_⟩⟩
  · by_cases e : x * n + y = m
    · obtain ⟨rfl, rfl⟩ := place_inj hy hb (e.trans hm)
      rw [hn] at hc; cases hc
    · exact h.tells x y c hx hy (by omega) hc z
  · have := hall a b ha hb (by omega)
    rw [hn] at this; cases this
theorem told_put {n m a b c : Nat} {R : Nat → Nat → Bool} {D : DataW Unit} (h : Told n R m D) (h6 : n ≤ 6) (hm : m = a * n + b) (ha : a < n) (hb : b < n) (hn : near n R a b = some c) : Told n R (m + 1) (D.put (kl a b) (numD c)) := by
  have hk := kl_key a b
  have hf := h.free a b ha hb (by omega)
  have hs : Maps.size (D.put (kl a b) (numD c)) = Maps.size D + 1 := by rw [Maps.size_put h.tidy, hf]; rfl
  have hmost := h.most
  refine ⟨h.tidy.put hk _, fun x y d hx hy hlt hd z => ?_, fun x y hx hy hle => ?_, by omega, ?_⟩
  · by_cases e : x * n + y = m
    · obtain ⟨rfl, rfl⟩ := place_inj hy hb (e.trans hm)
      rw [hn] at hd
      cases hd
      exact Maps.atKey_put_same h.tidy.isMap hk _ _
    · rw [Maps.atKey_put_other (fun e1 => ?_)]
      · exact h.tells x y d hx hy (by omega) hd z
      · obtain ⟨rfl, rfl⟩ := kl_inj (by omega) (by omega) (by omega) (by omega) e1
        omega
  · rw [Maps.has_put_other (fun e1 => ?_)]
    · exact h.free x y hx hy (by omega)
    · obtain ⟨rfl, rfl⟩ := kl_inj (by omega) (by omega) (by omega) (by omega) e1
      omega
  · rw [hs]
    constructor
    · intro he x y hx hy hlt
      by_cases e : x * n + y = m
      · obtain ⟨rfl, rfl⟩ := place_inj hy hb (e.trans hm)
        rw [hn]; rfl
      · exact h.whole.1 (by omega) x y hx hy (by omega)
    · intro hall
      have := h.whole.2 (fun x y hx hy hlt => hall x y hx hy (by omega))
      omega
end Go.Proofs.Ytdagbepjhbmlfaa.L

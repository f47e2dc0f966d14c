/- A flush, or a crash, of a span leaves the other sectors. -/
import Derived.Test.YtdagbepjhbmlfaaProg
import Derived.Test.YtdagbepjhbmlfaaRuns
namespace Go.Proofs.Ytdagbepjhbmlfaa.D
open Go.RowKit
set_option linter.unusedVariables false

theorem laid_out (i : Nat) (l : List (Nat × List UInt8)) : ∀ lie : List (List UInt8), (∀ p ∈ l, p.1 ≠ i) → (laid lie l)[i]? = lie[i]? := by
  induction l with
  | nil => intro lie _; rfl
  | cons p l ih =>
    intro lie h
    show (laid (lie.set p.1 p.2) l)[i]? = _
    rw [ih _ (fun q hq => h q (by simp [hq])), List.getElem?_set_ne (h p (by simp))]
theorem kepts_out (i : Nat) (tk : List (Nat × List UInt8)) (h : ∀ p ∈ tk, p.1 ≠ i) (kl : List (Int × Int)) : ∀ lie : List (List UInt8), (kepts tk lie kl)[i]? = lie[i]? := by
  induction kl with
  | nil => intro lie; rfl
  | cons q kl ih =>
    intro lie
    show (kepts tk (kstep tk lie q) kl)[i]? = _
    rw [ih]
    unfold kstep
    split
    · rfl
    · rename_i p hp
      split at hp
      · cases hp
      · rw [List.getElem?_set_ne (h p (List.mem_of_getElem? hp))]
theorem rd_filter (f n i : Nat) (h : ¬ (f ≤ i ∧ i < f + n)) (ws : List (Nat × List UInt8)) : ∀ s, rd (ws.filter (keepB f n)) i s = rd ws i s := by
  induction ws with
  | nil => intro s; rfl
  | cons p ws ih =>
    intro s
    rw [rd_cons, List.filter_cons]
    by_cases hk : keepB f n p = true
    · rw [if_pos hk, rd_cons, ih]
    · rw [if_neg hk, ih]
      have hs : spanB f n p = true := by simpa [keepB] using hk
      have hb : f ≤ p.1 ∧ p.1 < f + n := by simpa [spanB] using hs
      rw [if_neg (by intro e; rw [e] at hb; exact h hb)]
theorem span_ne {f n i : Nat} (h : ¬ (f ≤ i ∧ i < f + n)) (ws : List (Nat × List UInt8)) : ∀ p ∈ ws.filter (spanB f n), p.1 ≠ i := fun p hp e => by
  have hs := (List.mem_filter.1 hp).2
  have hb : f ≤ p.1 ∧ p.1 < f + n := by simpa [spanB] using hs
  rw [e] at hb
  exact h hb
/-- Beyond its span an act that flushes or crashes changes nothing. -/
theorem act_apart {lie : List (List UInt8)} {ws : List (Nat × List UInt8)} {k : Int} (f n : Nat) (c : UInt8) (kl : List (Int × Int)) (hk : k = 1 ∨ k = 2) (hok : spanOk lie.length f n) {i : Nat} (h : ¬ (f ≤ i ∧ i < f + n)) :
    (actL lie ws ⟨k, f, n, c, kl⟩)[i]? = lie[i]? ∧ ∀ s, rd (actW lie.length ws ⟨k, f, n, c, kl⟩) i s = rd ws i s := by
  constructor
  · rcases hk with rfl | rfl
    · simp only [actL, hok, and_self, if_true, Int.toNat_natCast]
      exact laid_out i _ _ (span_ne h ws)
    · simp only [actL, hok, and_self, if_true, Int.toNat_natCast, show ((2 : Int) = 1) = False by simp, false_and, if_false]
      exact kepts_out i _ (span_ne h ws) kl lie
  · intro s
    have hw : actW lie.length ws ⟨k, f, n, c, kl⟩ = ws.filter (keepB f n) := by
      rcases hk with rfl | rfl <;> simp [actW, hok]
    rw [hw]
    exact rd_filter f n i h ws s
theorem actE_zero {len : Nat} {k a n : Int} {c : UInt8} {kl : List (Int × Int)} (hk : k = 1 ∨ k = 2) : actE len ⟨k, a, n, c, kl⟩ = if spanOk len a n then 0 else 20 := by
  rcases hk with rfl | rfl <;> simp [actE]
end Go.Proofs.Ytdagbepjhbmlfaa.D

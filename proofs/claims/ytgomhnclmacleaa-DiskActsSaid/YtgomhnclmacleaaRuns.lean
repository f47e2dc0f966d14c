/- Acts one behind the other; what a flush, and a crash that keeps all, leaves to lie. -/
import Derived.Test.YtgomhnclmacleaaProg
import Derived.Test.YtgomhnclmacleaaOpenActs
namespace Go.Proofs.Ytgomhnclmacleaa.D
open Go.RowKit
set_option linter.unusedVariables false

/-- What lies, and what waits, behind acts. -/
def runs (lie : List (List UInt8)) (xs : List Act1) : List (List UInt8) × List (Nat × List UInt8) := xs.foldl (fun s x => (actL s.1 s.2 x, actW s.1.length s.2 x)) (lie, [])
theorem runs_snoc (lie : List (List UInt8)) (xs : List Act1) (x : Act1) : runs lie (xs ++ [x]) = (actL (runs lie xs).1 (runs lie xs).2 x, actW (runs lie xs).1.length (runs lie xs).2 x) := by simp [runs, List.foldl_append]
/-- A disk that the law made itself, behind some acts. -/
structure Own (B : Nat) (w wr : World) (d g : Nat) (lie : List (List UInt8)) (ws : List (Nat × List UInt8)) : Prop where
  disk : ∃ v, Dk wr d g v lie ws ∧ ∀ k, v.ownBlock = some k → B ≤ k
  bel : Below B w wr
theorem Own.turned {B d g : Nat} {w wr w' : World} {lie' : List (List UInt8)} {ws' : List (Nat × List UInt8)} {v : Value} (hd : B ≤ d) (hg : B ≤ g) (hv : ∀ k, v.ownBlock = some k → B ≤ k) (hb : Below B w wr) (hB : B ≤ wr.heap.size) (h : Turned wr d g v lie' ws' w') : Own B w w' d g lie' ws' := by
  obtain ⟨v', h1, h2, h3⟩ := h
  refine ⟨⟨v', h1, fun k hk => ?_⟩, hb.trans (h3.below hB fun k hk => ?_)⟩
  · rcases h2 k hk with e | e
    · exact hv k e
    · omega
  · rcases hk with e | e | e
    · omega
    · omega
    · exact hv k e
theorem Own.below {B d g : Nat} {w wr w' : World} {lie : List (List UInt8)} {ws : List (Nat × List UInt8)} (h : Own B w wr d g lie ws) (hB : B ≤ wr.heap.size) (hb : Below wr.heap.size wr w') : Own B w w' d g lie ws := by
  obtain ⟨⟨v, h1, h2⟩, h3⟩ := h
  exact ⟨⟨v, h1.below hb, h2⟩, h3.trans (hb.mono hB)⟩

theorem rd_cons (p : Nat × List UInt8) (ws : List (Nat × List UInt8)) (a : Nat) (s : List UInt8) : rd (p :: ws) a s = rd ws a (if p.1 = a then p.2 else s) := rfl
theorem laid_at (ws : List (Nat × List UInt8)) : ∀ (lie : List (List UInt8)) (a : Nat) (s : List UInt8), lie[a]? = some s → (laid lie ws)[a]? = some (rd ws a s) := by
  induction ws with
  | nil => intro lie a s h; exact h
  | cons p ws ih =>
    intro lie a s h
    show (laid (lie.set p.1 p.2) ws)[a]? = _
    have ha : a < lie.length := (List.getElem?_eq_some_iff.1 h).1
    rw [rd_cons]
    by_cases e : p.1 = a
    · rw [if_pos e]
      exact ih _ _ _ (by rw [e, List.getElem?_set_self ha])
    · rw [if_neg e]
      exact ih _ _ _ (by rw [List.getElem?_set_ne e]; exact h)
theorem laid_64 (ws : List (Nat × List UInt8)) : ∀ (lie : List (List UInt8)), (∀ s ∈ lie, s.length = 64) → (∀ p ∈ ws, p.2.length = 64) → ∀ s ∈ laid lie ws, s.length = 64 := by
  induction ws with
  | nil => intro lie h _; exact h
  | cons p ws ih =>
    intro lie h hw
    refine ih _ (fun s hs => ?_) (fun q hq => hw q (by simp [hq]))
    rcases List.mem_or_eq_of_mem_set hs with e | e
    · exact h s e
    · rw [e]; exact hw p (by simp)
/-- Keeps of all writes, whole. -/
def allKeeps (n : Nat) : List (Int × Int) := (List.range n).map fun i : Nat => ((i : Int), (64 : Int))
theorem allKeeps_succ (n : Nat) : allKeeps (n + 1) = allKeeps n ++ [((n : Int), (64 : Int))] := by simp [allKeeps, List.range_succ]
theorem allKeeps_len (n : Nat) : (allKeeps n).length = n := by simp [allKeeps]
theorem kepts_all (tk : List (Nat × List UInt8)) (lie : List (List UInt8)) (h : ∀ s ∈ lie, s.length = 64) (hw : ∀ p ∈ tk, p.2.length = 64) (hin : ∀ p ∈ tk, p.1 < lie.length) : ∀ n, n ≤ tk.length → kepts tk lie (allKeeps n) = laid lie (tk.take n) := by
  intro n
  induction n with
  | zero => intro _; rfl
  | succ n ih =>
    intro hn
    have hp : tk[n]? = some (tk[n]'(by omega)) := List.getElem?_eq_getElem (by omega)
    obtain ⟨p, hp⟩ : ∃ p, tk[n]? = some p := ⟨_, hp⟩
    rw [allKeeps_succ, kepts_snoc, ih (by omega), List.take_add_one, hp, show (some p).toList = [p] from rfl, laid_snoc]
    have hpm := List.mem_of_getElem? hp
    have hal : p.1 < (laid lie (tk.take n)).length := by rw [laid_len]; exact hin p hpm
    obtain ⟨old, ho⟩ : ∃ old, (laid lie (tk.take n))[p.1]? = some old := ⟨_, List.getElem?_eq_getElem hal⟩
    have ho64 : old.length = 64 := laid_64 _ _ h (fun q hq => hw q (List.mem_of_mem_take hq)) old (List.mem_of_getElem? ho)
    rw [kstep_in hp ho, show cut 64 = 64 from rfl, show p.2.take 64 = p.2 from List.take_of_length_le (by rw [hw p hpm]; omega), show old.drop 64 = [] from List.drop_eq_nil_of_le (by omega), List.append_nil]
theorem kept_all_read {lie : List (List UInt8)} {ws : List (Nat × List UInt8)} (h : ∀ s ∈ lie, s.length = 64) (hw : ∀ p ∈ ws, p.2.length = 64) (hin : ∀ p ∈ ws, p.1 < lie.length) {a : Nat} {s : List UInt8} (hs : lie[a]? = some s) : (kepts ws lie (allKeeps ws.length))[a]? = some (rd ws a s) := by
  rw [kepts_all ws lie h hw hin _ (Nat.le_refl _), List.take_length]
  exact laid_at ws lie a s hs
theorem span_all {len : Nat} {ws : List (Nat × List UInt8)} (hin : ∀ p ∈ ws, p.1 < len) : ws.filter (spanB 0 len) = ws ∧ ws.filter (keepB 0 len) = [] := by
  refine ⟨List.filter_eq_self.2 fun p hp => ?_, List.filter_eq_nil_iff.2 fun p hp => ?_⟩
  · have := hin p hp; simp [spanB, this]
  · have := hin p hp; simp [keepB, spanB, this]
end Go.Proofs.Ytgomhnclmacleaa.D

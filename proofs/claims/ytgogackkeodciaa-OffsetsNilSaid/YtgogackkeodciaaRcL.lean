/- The definition's records: the six numbers with which bytes begin. The definition's records: May, chain, Encode. The definition's records: Decode. -/
import Derived.Test.YtgogackkeodciaaRcD
import Derived.Deep.LoopGhost
import Derived.Test.YtgogackkeodciaaQuietB
import Derived.Deep.Cut
import Derived.Test.YtgogackkeodciaaStops
import Derived.Test.YtgogackkeodciaaCells
section
namespace Go.Proofs.Ytgogackkeodciaa.W
open Go.RowKit Go.Sort
open Go.Proofs.Ytgogackkeodciaa.M Go.Proofs.Ytgogackkeodciaa.D
set_option linter.unusedVariables false
set_option linter.unusedSimpArgs false

/-- So many chains of numbers that may be, one behind the other. -/
def chs : Nat → List UInt8 → Option (List Int × Nat)
  | 0, _ => some ([], 0)
  | k + 1, l => (chs k l).bind fun a => (chAt l a.2).bind fun b => if 1099511627776 < b.1 then none else some (a.1 ++ [b.1], b.2)
theorem chs_len {l : List UInt8} : ∀ {k : Nat} {vs : List Int} {p : Nat}, chs k l = some (vs, p) → vs.length = k ∧ p ≤ l.length := by
  intro k
  induction k with
  | zero => intro vs p h; simp only [chs, Option.some.injEq, Prod.mk.injEq] at h; obtain ⟨rfl, rfl⟩ := h; exact ⟨rfl, Nat.zero_le _⟩
  | succ k ih =>
    intro vs p h
    simp only [chs, Option.bind_eq_some_iff] at h
    obtain ⟨⟨vs', p'⟩, h1, ⟨v, q⟩, h2, h3⟩ := h
    obtain ⟨e1, e2⟩ := ih h1
    dsimp only at h2 h3
    by_cases hv : 1099511627776 < v
    · rw [if_pos hv] at h3; cases h3
    · rw [if_neg hv] at h3
      simp only [Option.some.injEq, Prod.mk.injEq] at h3
      obtain ⟨rfl, rfl⟩ := h3
      exact ⟨by rw [List.length_append, e1]; rfl, (chAt_back h2 e2).2.1⟩
theorem chs_down {l : List UInt8} {j k : Nat} (h : j ≤ k) (hn : chs j l = none) : chs k l = none := by
  induction k with
  | zero => obtain rfl : j = 0 := by omega
            exact hn
  | succ k ih =>
    by_cases e : j = k + 1
    · subst e; exact hn
    · simp only [chs, ih (by omega), Option.bind_none]
/-- The cells of the numbers, as many as there are. -/
def six (vs : List Int) : List Value := (vs.map fun v => Value.int .i64 v) ++ List.replicate (6 - vs.length) (.int .i64 0)
theorem six_len {vs : List Int} (h : vs.length ≤ 6) : (six vs).length = 6 := by unfold six; simp; omega
theorem six_step {vs : List Int} {v : Int} {k : Nat} (h : vs.length = k) (hk : k < 6) : splice (six vs) k [.int .i64 v] = six (vs ++ [v]) := by
  unfold splice six
  have e1 : (vs.map fun v => Value.int .i64 v).length = k := by simp [h]
  rw [List.take_left' e1, List.map_append, List.append_assoc]
  congr 1
  rw [List.length_append, List.length_singleton, List.length_singleton, h, List.drop_append, List.drop_of_length_le (by omega), List.nil_append, List.drop_replicate, e1]
  show _ = [Value.int .i64 v] ++ _
  congr 2
  omega

theorem six_open : ∀ {vs : List Int}, vs.length ≤ 6 → ∃ a0 a1 a2 a3 a4 a5 : Int, six vs = [.int .i64 a0, .int .i64 a1, .int .i64 a2, .int .i64 a3, .int .i64 a4, .int .i64 a5]
  | [], _ => ⟨0, 0, 0, 0, 0, 0, rfl⟩
  | [a], _ => ⟨a, 0, 0, 0, 0, 0, rfl⟩
  | [a, b], _ => ⟨a, b, 0, 0, 0, 0, rfl⟩
  | [a, b, c], _ => ⟨a, b, c, 0, 0, 0, rfl⟩
  | [a, b, c, d], _ => ⟨a, b, c, d, 0, 0, rfl⟩
  | [a, b, c, d, e], _ => ⟨a, b, c, d, e, 0, rfl⟩
  | [a, b, c, d, e, f], _ => ⟨a, b, c, d, e, f, rfl⟩
  | _ :: _ :: _ :: _ :: _ :: _ :: _ :: _, h => by simp at h
theorem chs_step {l : List UInt8} {k : Nat} {vs : List Int} {p : Nat} (h : chs (k + 1) l = some (vs, p)) : ∃ vs' p' v, chs k l = some (vs', p') ∧ chAt l p' = some (v, p) ∧ v ≤ 1099511627776 ∧ vs = vs' ++ [v] := by
  simp only [chs, Option.bind_eq_some_iff] at h
  obtain ⟨⟨vs', p'⟩, h1, ⟨v, q⟩, h2, h3⟩ := h
  dsimp only at h2 h3
  by_cases hv : 1099511627776 < v
  · rw [if_pos hv] at h3; cases h3
  · rw [if_neg hv] at h3
    simp only [Option.some.injEq, Prod.mk.injEq] at h3
    obtain ⟨rfl, rfl⟩ := h3
    exact ⟨vs', p', v, h1, h2, by omega, rfl⟩
theorem chs_six {l : List UInt8} {vs : List Int} {p : Nat} (h : chs 6 l = some (vs, p)) : ∃ (o t c d f g : Int) (p1 p2 p3 p4 p5 : Nat), vs = [o, t, c, d, f, g] ∧ chAt l 0 = some (o, p1) ∧ chAt l p1 = some (t, p2) ∧ chAt l p2 = some (c, p3) ∧ chAt l p3 = some (d, p4) ∧ chAt l p4 = some (f, p5) ∧ chAt l p5 = some (g, p) := by
  obtain ⟨v5, p5, g, h5, e5, _, rfl⟩ := chs_step h
  obtain ⟨v4, p4, f, h4, e4, _, rfl⟩ := chs_step h5
  obtain ⟨v3, p3, d, h3, e3, _, rfl⟩ := chs_step h4
  obtain ⟨v2, p2, c, h2, e2, _, rfl⟩ := chs_step h3
  obtain ⟨v1, p1, t, h1, e1, _, rfl⟩ := chs_step h2
  obtain ⟨v0, p0, o, h0, e0, _, rfl⟩ := chs_step h1
  simp only [chs, Option.some.injEq, Prod.mk.injEq] at h0
  obtain ⟨rfl, rfl⟩ := h0
  exact ⟨o, t, c, d, f, g, p1, p2, p3, p4, p5, rfl, e0, e1, e2, e3, e4, e5⟩
theorem recAt_parts {s : ByteArray} {p q : Nat} {r : Rc} (h : recAt s p = some (r, q)) (hp : p ≤ s.size) : ∃ p1 p2 p3 p4 p5 p6 p7, chAt s.data.toList p = some (r.off, p1) ∧ chAt s.data.toList p1 = some (r.tick, p2) ∧ chAt s.data.toList p2 = some (r.prod, p3) ∧ chAt s.data.toList p3 = some (r.seq, p4) ∧ chAt s.data.toList p4 = some (r.frm, p5) ∧
    chAt s.data.toList p5 = some (goneI r.gone, p6) ∧ txAt s p6 = some (r.key, p7) ∧ txAt s p7 = some (r.val, q) ∧ r.ok := by
  have hlen : s.data.toList.length = s.size := by simp
  unfold recAt at h
  simp only [Option.bind_eq_some_iff] at h
  obtain ⟨⟨o, p1⟩, e1, ⟨t, p2⟩, e2, ⟨pr, p3⟩, e3, ⟨sq, p4⟩, e4, ⟨fr, p5⟩, e5, ⟨g, p6⟩, e6, h⟩ := h
  dsimp only at e1 e2 e3 e4 e5 e6 h
  by_cases hg : 1 < g
  · rw [if_pos hg] at h; cases h
  · rw [if_neg hg] at h
    simp only [Option.bind_eq_some_iff] at h
    obtain ⟨⟨k, p7⟩, e7, ⟨v, p8⟩, e8, h⟩ := h
    dsimp only at e7 e8 h
    by_cases hok : (Rc.mk o t k v (decide (g = 1)) pr sq fr).ok
    · rw [if_pos hok] at h
      simp only [Option.some.injEq, Prod.mk.injEq] at h
      obtain ⟨rfl, rfl⟩ := h
      obtain ⟨_, b1, _, _, _⟩ := chAt_back e1 (by omega)
      obtain ⟨_, b2, _, _, _⟩ := chAt_back e2 b1
      obtain ⟨_, b3, _, _, _⟩ := chAt_back e3 b2
      obtain ⟨_, b4, _, _, _⟩ := chAt_back e4 b3
      obtain ⟨_, b5, _, _, _⟩ := chAt_back e5 b4
      obtain ⟨_, _, g0, _, _⟩ := chAt_back e6 b5
      have hgi : goneI (decide (g = 1)) = g := by
        unfold goneI
        by_cases hg1 : g = 1
        · simp [hg1]
        · have : g = 0 := by omega
          simp [this]
      exact ⟨p1, p2, p3, p4, p5, p6, p7, e1, e2, e3, e4, e5, by rw [hgi]; exact e6, e7, e8, hok⟩
    · rw [if_neg hok] at h; cases h
/-- Where the numbers are not there, or too large, there is no record. -/
theorem chs_none {s : ByteArray} (h : chs 6 s.data.toList = none) : recAt s 0 = none := by
  refine Option.eq_none_iff_forall_ne_some.2 fun ⟨r, q⟩ hr => ?_
  obtain ⟨p1, p2, p3, p4, p5, p6, p7, e1, e2, e3, e4, e5, e6, _, _, hok⟩ := recAt_parts hr (Nat.zero_le _)
  obtain ⟨⟨_, a1⟩, ⟨_, a2⟩, ⟨_, a3⟩, ⟨_, a4⟩, ⟨_, a5⟩, _⟩ := hok
  have a6 : goneI r.gone ≤ 1 := by unfold goneI; split <;> omega
  have : chs 6 s.data.toList = some ([] ++ [r.off] ++ [r.tick] ++ [r.prod] ++ [r.seq] ++ [r.frm] ++ [goneI r.gone], p6) := by
    simp only [chs, Option.bind_some, e1, e2, e3, e4, e5, e6]
    rw [if_neg (by omega)]
    simp only [Option.bind_some, e2]
    rw [if_neg (by omega)]
    simp only [Option.bind_some, e3]
    rw [if_neg (by omega)]
    simp only [Option.bind_some, e4]
    rw [if_neg (by omega)]
    simp only [Option.bind_some, e5]
    rw [if_neg (by omega)]
    simp only [Option.bind_some, e6]
    rw [if_neg (by omega)]
  rw [h] at this; cases this

/-- What the numbers come to. -/
def NumPost (s : ByteArray) (e : Ending) : Prop :=
  (∃ vs p, chs 6 s.data.toList = some (vs, p) ∧ e = .returned (.tuple #[.agg (six vs).toArray, .int .i64 (p : Int)])) ∨
  (chs 6 s.data.toList = none ∧ ∃ a0 a1 a2 a3 a4 a5 : Int, e = .returned (.tuple #[.agg #[.int .i64 a0, .int .i64 a1, .int .i64 a2, .int .i64 a3, .int .i64 a4, .int .i64 a5], .int .i64 (-1)]))
abbrev z6 : List Value := [.int .i64 0, .int .i64 0, .int .i64 0, .int .i64 0, .int .i64 0, .int .i64 0]

end Go.Proofs.Ytgogackkeodciaa.W
end
section
namespace Go.Proofs.Ytgogackkeodciaa.W
open Go.RowKit Go.Sort
open Go.Proofs.Ytgogackkeodciaa.M Go.Proofs.Ytgogackkeodciaa.D
set_option linter.unusedVariables false
set_option linter.unusedSimpArgs false

def isUp (n m : Int) : Bool := decide (0 ≤ n ∧ n ≤ m)
theorem gone_bytes (g : Bool) : B (chain (goneI g)) = if g then ⟨#[1]⟩ else ⟨#[0]⟩ := by cases g <;> decide
end Go.Proofs.Ytgogackkeodciaa.W
end
section
namespace Go.Proofs.Ytgogackkeodciaa.W
open Go.RowKit Go.Sort
open Go.Proofs.Ytgogackkeodciaa.M Go.Proofs.Ytgogackkeodciaa.D Go.Proofs.Ytgogackkeodciaa.Z
set_option linter.unusedVariables false
set_option linter.unusedSimpArgs false

theorem txAt_some {s x : ByteArray} {p q : Nat} (h : txAt s p = some (x, q)) : ∃ n : Nat, untx (s.extract p s.size) = (x, (n : Int), 0) ∧ q = p + n := by
  unfold txAt at h
  obtain ⟨a, n, e, hU⟩ : ∃ v n x, untx (s.extract p s.size) = (v, n, x) := ⟨_, _, _, rfl⟩
  rw [hU] at h ⊢
  dsimp only at h
  by_cases he : e = 0
  · subst he
    rw [if_pos rfl] at h
    simp only [Option.some.injEq, Prod.mk.injEq] at h
    obtain ⟨rfl, rfl⟩ := h
    have := (untx_back _ _ _ hU).1
    exact ⟨n.toNat, by rw [Int.toNat_of_nonneg (by omega)], rfl⟩
  · rw [if_neg he] at h; cases h
theorem txAt_none {s : ByteArray} {p : Nat} (h : txAt s p = none) : ∃ a n e, untx (s.extract p s.size) = (a, n, e) ∧ e ≠ 0 := by
  unfold txAt at h
  obtain ⟨a, n, e, hU⟩ : ∃ v n x, untx (s.extract p s.size) = (v, n, x) := ⟨_, _, _, rfl⟩
  rw [hU] at h
  exact ⟨a, n, e, hU, fun he => by dsimp only at h; rw [if_pos he] at h; cases h⟩
end Go.Proofs.Ytgogackkeodciaa.W
end

/- The table with which bytes begin (18.3): what is read, number by number; nothing of the program but the bytes' form. -/
import Derived.Test.YtgogackkeodciaaGreatDdE
import Derived.Test.YtgogackkeodciaaGreatRecM
namespace Go.Proofs.YtgogackkeodciaaGreat.W
open Go.RowKit
open Go.Proofs.YtgogackkeodciaaGreat.M Go.Proofs.YtgogackkeodciaaGreat.D
set_option linter.unusedVariables false
set_option linter.unusedSimpArgs false

/-- One number of a table, and where it ends. -/
def numR (l : List UInt8) (p : Nat) : Option (Int × Nat) := match chAt l p with
  | some (v, q) => if v ≤ 1099511627776 then some (v, q) else none
  | none => none
/-- What the reader tells of it. -/
def numD (l : List UInt8) (p : Nat) : Int × Nat := match chAt l p with
  | some (v, q) => (wrap64 v, q)
  | none => (-1, p)
theorem numR_some {l : List UInt8} {p : Nat} {v : Int} {q : Nat} (h : numR l p = some (v, q)) : chAt l p = some (v, q) ∧ v ≤ 1099511627776 := by
  unfold numR at h
  cases hc : chAt l p with
  | none => rw [hc] at h; cases h
  | some u =>
    obtain ⟨v', q'⟩ := u
    rw [hc] at h
    dsimp only at h
    by_cases hv : v' ≤ 1099511627776
    · rw [if_pos hv] at h; cases h; exact ⟨rfl, hv⟩
    · rw [if_neg hv] at h; cases h
theorem numD_in {l : List UInt8} {p : Nat} {v : Int} {q : Nat} (h : numR l p = some (v, q)) (hp : p ≤ l.length) :
    numD l p = (v, q) ∧ p < q ∧ q ≤ l.length ∧ 0 ≤ v ∧ v ≤ 1099511627776 ∧ l.drop p = chain v ++ l.drop q := by
  obtain ⟨h1, h2⟩ := numR_some h
  obtain ⟨a1, a2, a3, a4, a5⟩ := chAt_back h1 hp
  refine ⟨?_, a1, a2, a3, h2, a5⟩
  unfold numD
  rw [h1]
  have : wrap64 v = v := by unfold wrap64; omega
  dsimp only
  rw [this]
theorem numD_out {l : List UInt8} {p : Nat} (h : numR l p = none) (hp : p ≤ l.length) : (numD l p).1 < 0 ∨ 1099511627776 < (numD l p).1 := by
  unfold numR at h
  unfold numD
  cases hc : chAt l p with
  | none => dsimp only; omega
  | some u =>
    obtain ⟨v, q⟩ := u
    rw [hc] at h
    dsimp only at h ⊢
    obtain ⟨_, _, a3, a4, _⟩ := chAt_back hc hp
    by_cases hv : v ≤ 1099511627776
    · rw [if_pos hv] at h; cases h
    · unfold wrap64; omega
theorem numD_le {l : List UInt8} {p : Nat} (hp : p ≤ l.length) : p ≤ (numD l p).2 ∧ (numD l p).2 ≤ l.length := by
  unfold numD
  cases hc : chAt l p with
  | none => exact ⟨Nat.le_refl _, hp⟩
  | some u =>
    obtain ⟨v, q⟩ := u
    obtain ⟨a1, a2, _⟩ := chAt_back hc hp
    exact ⟨Nat.le_of_lt a1, a2⟩
theorem numR_chain {l t : List UInt8} {p : Nat} {v : Int} (h : l.drop p = chain v ++ t) (h0 : 0 ≤ v) (h1 : v ≤ 1099511627776) : numR l p = some (v, p + (chain v).length) := by
  unfold numR
  rw [chAt_chain h h0 (by omega)]
  dsimp only
  rw [if_pos h1]

/-- A producer and its numbers. -/
def rowR (l : List UInt8) (p : Nat) : Option (La × Nat) :=
  (numR l p).bind fun a => (numR l a.2).bind fun b => (numR l b.2).bind fun c => (numR l c.2).bind fun d => some (⟨a.1, b.1, c.1, d.1⟩, d.2)
def rowD (l : List UInt8) (p : Nat) : La × Nat :=
  (⟨(numD l p).1, (numD l (numD l p).2).1, (numD l (numD l (numD l p).2).2).1, (numD l (numD l (numD l (numD l p).2).2).2).1⟩, (numD l (numD l (numD l (numD l p).2).2).2).2)
theorem rowD_le {l : List UInt8} {p : Nat} (hp : p ≤ l.length) : (rowD l p).2 ≤ l.length := by
  have h1 := (numD_le hp).2
  have h2 := (numD_le h1).2
  have h3 := (numD_le h2).2
  exact (numD_le h3).2
theorem row_in {l : List UInt8} {p q : Nat} {x : La} (h : rowR l p = some (x, q)) (hp : p ≤ l.length) : rowD l p = (x, q) ∧ p ≤ q ∧ q ≤ l.length ∧ l.drop p = entB x ++ l.drop q := by
  unfold rowR at h
  cases ha : numR l p with
  | none => rw [ha] at h; cases h
  | some a =>
    obtain ⟨a, q1⟩ := a
    rw [ha] at h
    dsimp only [Option.bind] at h
    obtain ⟨a1, a2, a3, _, _, a6⟩ := numD_in ha hp
    cases hb : numR l q1 with
    | none => rw [hb] at h; cases h
    | some b =>
      obtain ⟨b, q2⟩ := b
      rw [hb] at h
      dsimp only [Option.bind] at h
      obtain ⟨b1, b2, b3, _, _, b6⟩ := numD_in hb a3
      cases hc : numR l q2 with
      | none => rw [hc] at h; cases h
      | some c =>
        obtain ⟨c, q3⟩ := c
        rw [hc] at h
        dsimp only [Option.bind] at h
        obtain ⟨c1, c2, c3, _, _, c6⟩ := numD_in hc b3
        cases hd : numR l q3 with
        | none => rw [hd] at h; cases h
        | some d =>
          obtain ⟨d, q4⟩ := d
          rw [hd] at h
          dsimp only [Option.bind] at h
          obtain ⟨d1, d2, d3, _, _, d6⟩ := numD_in hd c3
          cases h
          refine ⟨?_, by omega, d3, ?_⟩
          · unfold rowD
            simp only [a1, b1, c1, d1]
          · rw [a6, b6, c6, d6]
            unfold entB
            simp only [List.append_assoc]
theorem row_out {l : List UInt8} {p : Nat} (h : rowR l p = none) (hp : p ≤ l.length) : ¬ (rowD l p).1.ok := by
  intro hk
  obtain ⟨k1, k2, k3, k4⟩ := hk
  unfold rowD at k1 k2 k3 k4
  dsimp only at k1 k2 k3 k4
  unfold rowR at h
  cases ha : numR l p with
  | none => have := numD_out ha hp; omega
  | some a =>
    obtain ⟨a, q1⟩ := a
    obtain ⟨a1, _, a3, _⟩ := numD_in ha hp
    rw [ha] at h
    dsimp only [Option.bind] at h
    rw [a1] at k2 k3 k4
    dsimp only at k2 k3 k4
    cases hb : numR l q1 with
    | none => have := numD_out hb a3; omega
    | some b =>
      obtain ⟨b, q2⟩ := b
      obtain ⟨b1, _, b3, _⟩ := numD_in hb a3
      rw [hb] at h
      dsimp only [Option.bind] at h
      rw [b1] at k3 k4
      dsimp only at k3 k4
      cases hc : numR l q2 with
      | none => have := numD_out hc b3; omega
      | some c =>
        obtain ⟨c, q3⟩ := c
        obtain ⟨c1, _, c3, _⟩ := numD_in hc b3
        rw [hc] at h
        dsimp only [Option.bind] at h
        rw [c1] at k4
        dsimp only at k4
        cases hd : numR l q3 with
        | none => have := numD_out hd c3; omega
        | some d => rw [hd] at h; cases h
theorem row_ent {l t : List UInt8} {p : Nat} {x : La} (h : l.drop p = entB x ++ t) (hx : x.ok) : rowR l p = some (x, p + (entB x).length) ∧ l.drop (p + (entB x).length) = t := by
  obtain ⟨⟨x1, x2⟩, ⟨y1, y2⟩, ⟨z1, z2⟩, ⟨o1, o2⟩⟩ := hx
  have h' := h
  unfold entB at h
  simp only [List.append_assoc] at h
  have e1 := numR_chain h (by omega) x2
  have d1 : l.drop (p + (chain x.p).length) = chain x.s ++ (chain x.n ++ (chain x.o ++ t)) := by rw [← List.drop_drop, h, List.drop_left]
  have e2 := numR_chain d1 y1 y2
  have d2 : l.drop (p + (chain x.p).length + (chain x.s).length) = chain x.n ++ (chain x.o ++ t) := by rw [← List.drop_drop, d1, List.drop_left]
  have e3 := numR_chain d2 (by omega) (by omega)
  have d3 : l.drop (p + (chain x.p).length + (chain x.s).length + (chain x.n).length) = chain x.o ++ t := by rw [← List.drop_drop, d2, List.drop_left]
  have e4 := numR_chain d3 o1 (by omega)
  refine ⟨?_, by rw [← List.drop_drop, h', List.drop_left]⟩
  unfold rowR
  rw [e1]
  dsimp only [Option.bind]
  rw [e2]
  dsimp only [Option.bind]
  rw [e3]
  dsimp only [Option.bind]
  rw [e4]
  dsimp only [Option.bind]
  unfold entB
  simp only [List.length_append, Nat.add_assoc]

/-- The producer ahead. -/
def aheadF (t : List La) : Int := match t.getLast? with
  | some x => x.p
  | none => 0
theorem ahead_nil : aheadF [] = 0 := rfl
theorem ahead_app (t : List La) (x : La) : aheadF (t ++ [x]) = x.p := by unfold aheadF; rw [List.getLast?_concat]
def stepD (l : List UInt8) (u : List La × Nat) : Option (List La × Nat) := match rowR l u.2 with
  | some (x, q) => if x.p ≤ aheadF u.1 ∨ noteE u.1 x ≠ 0 then none else some (u.1 ++ [x], q)
  | none => none
def decS (l : List UInt8) (p0 : Nat) : Nat → Option (List La × Nat)
  | 0 => some ([], p0)
  | k + 1 => (decS l p0 k).bind (stepD l)
/-- The table with which bytes begin. -/
def decT (l : List UInt8) : Option (List La × Nat) := match numR l 0 with
  | some (n, p) => if 16 < n then none else decS l p n.toNat
  | none => none
theorem noteE_zero {l : List La} {x : La} (h : noteE l x = 0) : x.ok ∧ (hasL l x.p = true ∨ l.length < 16) := by
  unfold noteE at h
  by_cases c0 : ¬ x.ok
  · rw [if_pos c0] at h; omega
  · rw [if_neg c0] at h
    refine ⟨Classical.not_not.1 c0, Classical.byContradiction fun e => ?_⟩
    rw [if_neg e] at h
    omega
theorem noteL_end {t : List La} {x : La} (h : ∀ y ∈ t, y.p < x.p) : noteL t x = t ++ [x] := by
  unfold noteL
  have hf : t.filter (fun y => !decide (y.p = x.p)) = t := List.filter_eq_self.2 (fun y hy => by
    have := h y hy
    simp only [Bool.not_eq_true', decide_eq_false_iff_not]
    omega)
  rw [hf]
  clear hf
  induction t with
  | nil => rfl
  | cons y t ih =>
    have := h y (by simp)
    unfold insL
    rw [if_neg (by omega), ih (fun z hz => h z (by simp [hz]))]
    rfl
theorem decS_facts {l : List UInt8} {p0 : Nat} (hp0 : p0 ≤ l.length) : ∀ {k : Nat} {t : List La} {p : Nat}, decS l p0 k = some (t, p) →
    t.length = k ∧ TabOk t ∧ p ≤ l.length ∧ l.drop p0 = encB t ++ l.drop p ∧ (∀ y ∈ t, y.p ≤ aheadF t) := by
  intro k
  induction k with
  | zero =>
    intro t p h
    cases h
    exact ⟨rfl, TabOk.nil, hp0, by simp [encB], fun y hy => by simp at hy⟩
  | succ k ih =>
    intro t p h
    unfold decS at h
    cases hk : decS l p0 k with
    | none => rw [hk] at h; cases h
    | some u =>
      obtain ⟨t0, q0⟩ := u
      rw [hk] at h
      dsimp only [Option.bind] at h
      obtain ⟨i1, i2, i3, i4, i5⟩ := ih hk
      unfold stepD at h
      dsimp only at h
      cases hr : rowR l q0 with
      | none => rw [hr] at h; cases h
      | some v =>
        obtain ⟨x, q⟩ := v
        rw [hr] at h
        dsimp only at h
        by_cases hc : x.p ≤ aheadF t0 ∨ noteE t0 x ≠ 0
        · rw [if_pos hc] at h; cases h
        · rw [if_neg hc] at h
          cases h
          have c1 : aheadF t0 < x.p := by omega
          have c2 : noteE t0 x = 0 := Classical.byContradiction fun e => hc (.inr e)
          obtain ⟨r1, r2, r3, r4⟩ := row_in hr i3
          have hlt : ∀ y ∈ t0, y.p < x.p := fun y hy => Int.lt_of_le_of_lt (i5 y hy) c1
          obtain ⟨n1, n2⟩ := noteE_zero c2
          have hok := i2.note n1 n2
          rw [noteL_end hlt] at hok
          refine ⟨by simp [i1], hok, r3, ?_, fun y hy => ?_⟩
          · rw [i4, r4]
            unfold encB
            rw [List.flatMap_append]
            simp
          · rw [ahead_app]
            rcases List.mem_append.1 hy with hy | hy
            · exact Int.le_of_lt (hlt y hy)
            · rw [List.mem_singleton.1 hy]; exact Int.le_refl _
/-- A step, as the program takes it. -/
theorem step_no {l : List UInt8} {t : List La} {p : Nat} (h : stepD l (t, p) = none) (hp : p ≤ l.length) : (rowD l p).1.p ≤ aheadF t ∨ noteE t (rowD l p).1 ≠ 0 := by
  unfold stepD at h
  dsimp only at h
  cases hr : rowR l p with
  | none =>
    refine .inr ?_
    unfold noteE
    rw [if_pos (row_out hr hp)]
    omega
  | some v =>
    obtain ⟨x, q⟩ := v
    obtain ⟨r1, _⟩ := row_in hr hp
    rw [hr] at h
    dsimp only at h
    rw [r1]
    by_cases hc : x.p ≤ aheadF t ∨ noteE t x ≠ 0
    · exact hc
    · rw [if_neg hc] at h; cases h
theorem step_yes {l : List UInt8} {t t2 : List La} {p q : Nat} (h : stepD l (t, p) = some (t2, q)) (hp : p ≤ l.length) (ha : ∀ y ∈ t, y.p ≤ aheadF t) :
    ∃ x, rowR l p = some (x, q) ∧ rowD l p = (x, q) ∧ aheadF t < x.p ∧ noteE t x = 0 ∧ noteL t x = t2 ∧ aheadF t2 = x.p := by
  unfold stepD at h
  dsimp only at h
  cases hr : rowR l p with
  | none => rw [hr] at h; cases h
  | some v =>
    obtain ⟨x, q'⟩ := v
    obtain ⟨r1, _⟩ := row_in hr hp
    rw [hr] at h
    dsimp only at h
    by_cases hc : x.p ≤ aheadF t ∨ noteE t x ≠ 0
    · rw [if_pos hc] at h; cases h
    · rw [if_neg hc] at h
      cases h
      have c1 : aheadF t < x.p := by omega
      have c2 : noteE t x = 0 := Classical.byContradiction fun e => hc (.inr e)
      exact ⟨x, rfl, r1, c1, c2, noteL_end (fun y hy => Int.lt_of_le_of_lt (ha y hy) c1), ahead_app t x⟩
theorem decS_down {l : List UInt8} {p0 : Nat} {j k : Nat} (h : j ≤ k) (hn : decS l p0 j = none) : decS l p0 k = none := by
  induction k with
  | zero => rw [show j = 0 by omega] at hn; exact hn
  | succ k ih =>
    by_cases hj : j = k + 1
    · rw [← hj]; exact hn
    · unfold decS
      rw [ih (by omega)]
      rfl
/-- Of more than 16 there is no room. -/
theorem decS_many {l : List UInt8} {p0 : Nat} (hp0 : p0 ≤ l.length) {k : Nat} (hk : 16 < k) : decS l p0 k = none := by
  cases h : decS l p0 k with
  | none => rfl
  | some u =>
    obtain ⟨t, p⟩ := u
    obtain ⟨h1, h2, _⟩ := decS_facts hp0 h
    have := h2.few
    omega
/-- What is read is what is laid. -/
theorem decT_facts {l : List UInt8} {t : List La} {p : Nat} (h : decT l = some (t, p)) : TabOk t ∧ p ≤ l.length ∧ l = encL t ++ l.drop p := by
  unfold decT at h
  cases hn : numR l 0 with
  | none => rw [hn] at h; cases h
  | some u =>
    obtain ⟨n, p0⟩ := u
    rw [hn] at h
    dsimp only at h
    obtain ⟨_, _, a3, a4, _, a6⟩ := numD_in hn (Nat.zero_le _)
    by_cases h16 : 16 < n
    · rw [if_pos h16] at h; cases h
    · rw [if_neg h16] at h
      obtain ⟨h1, h2, h3, h4, _⟩ := decS_facts a3 h
      refine ⟨h2, h3, ?_⟩
      unfold encL
      rw [h1, Int.toNat_of_nonneg a4, List.append_assoc, ← h4, ← a6, List.drop_zero]
theorem decS_enc {l tl : List UInt8} {p0 : Nat} {t : List La} (hok : TabOk t) (hl : l.drop p0 = encB t ++ tl) : ∀ k, k ≤ t.length → decS l p0 k = some (t.take k, p0 + (encB (t.take k)).length) := by
  intro k
  induction k with
  | zero => intro _; simp [decS, encB]
  | succ k ih =>
    intro hk
    unfold decS
    rw [ih (by omega)]
    dsimp only [Option.bind]
    obtain ⟨x, hx⟩ : ∃ x, t[k]? = some x := ⟨_, List.getElem?_eq_getElem (by omega)⟩
    have hm := List.mem_of_getElem? hx
    have hsplit : t = t.take k ++ (x :: t.drop (k + 1)) := by
      obtain ⟨hk', rfl⟩ := List.getElem?_eq_some_iff.1 hx
      rw [← List.drop_eq_getElem_cons hk', List.take_append_drop]
    have he : encB t = encB (t.take k) ++ (entB x ++ encB (t.drop (k + 1))) := by
      conv => lhs; rw [hsplit]
      unfold encB
      rw [List.flatMap_append, List.flatMap_cons]
    have hd : l.drop (p0 + (encB (t.take k)).length) = entB x ++ (encB (t.drop (k + 1)) ++ tl) := by
      rw [← List.drop_drop, hl, he, List.append_assoc, List.drop_left, List.append_assoc]
    obtain ⟨r1, _⟩ := row_ent hd (hok.ok x hm)
    have hrise := hok.rise
    rw [hsplit] at hrise
    have hlt : ∀ y ∈ t.take k, y.p < x.p := fun y hy => (List.pairwise_append.1 hrise).2.2 y hy x (by simp)
    have hah : aheadF (t.take k) < x.p := by
      unfold aheadF
      cases hg : (t.take k).getLast? with
      | none => have := (hok.ok x hm).1; dsimp only; omega
      | some y => exact hlt y (List.mem_of_getLast? hg)
    have hne : noteE (t.take k) x = 0 := by
      unfold noteE
      rw [if_neg (fun e => e (hok.ok x hm)), if_pos (.inr (by have := hok.few; rw [List.length_take]; omega))]
    unfold stepD
    dsimp only
    rw [r1]
    dsimp only
    rw [if_neg (by rintro (h | h); omega; exact h hne), encB_take hx, List.take_add_one, hx, List.length_append]
    simp only [Option.toList_some, Nat.add_assoc]
theorem decT_enc {t : List La} (hok : TabOk t) (more : List UInt8) : decT (encL t ++ more) = some (t, (encL t).length) := by
  have h0 : (encL t ++ more).drop 0 = chain (t.length : Int) ++ (encB t ++ more) := by unfold encL; simp
  have hf := hok.few
  unfold decT
  rw [numR_chain h0 (by omega) (by omega)]
  dsimp only
  rw [if_neg (by omega), Int.toNat_natCast]
  have hd : (encL t ++ more).drop (0 + (chain (t.length : Int)).length) = encB t ++ more := by
    rw [← List.drop_drop, h0, List.drop_left]
  rw [decS_enc hok hd t.length (Nat.le_refl _), List.take_length]
  unfold encL
  rw [List.length_append, Nat.zero_add]
end Go.Proofs.YtgogackkeodciaaGreat.W

/- The mathematics of lattices: joins and meets; nothing of the program. -/
import Derived.Test.YtbhbiejaneencaaLatMath
namespace Go.Proofs.Ytbhbiejaneencaa.L
set_option linter.unusedVariables false

structure IsLat (n : Nat) (F : Nat → Nat → Bool) : Prop where
  refl : ∀ a, a < n → F a a = true
  anti : ∀ a b, a < n → b < n → F a b = true → F b a = true → a = b
  trans : ∀ a b c, a < n → b < n → c < n → F a b = true → F b c = true → F a c = true
  joins : ∀ a b, a < n → b < n → (near n F a b).isSome = true
  meets : ∀ a b, a < n → b < n → (near n (turn F) a b).isSome = true
theorem turn_turn (F : Nat → Nat → Bool) : turn (turn F) = F := rfl
theorem IsLat.dual {n : Nat} {F : Nat → Nat → Bool} (h : IsLat n F) : IsLat n (turn F) :=
  ⟨h.refl, fun a b ha hb h1 h2 => h.anti a b ha hb h2 h1, fun a b c ha hb hc h1 h2 => h.trans c b a hc hb ha h2 h1, h.meets, h.joins⟩
theorem isLat_of {len : Nat} {L : Nat → Nat} {F : Nat → Nat → Bool} (h : wrongN len L F = 0) : sqB len L = true ∧ IsLat len F := by
  unfold wrongN at h
  cases hs : sqB len L
  · simp [hs] at h
  cases ho : orderB len F
  · simp [hs, ho] at h
  cases hp : pairsB len F
  · simp [hs, ho, hp] at h
  have h1 := allB_iff.1 ho
  have hr : ∀ a, a < len → F a a = true := fun a ha => by have := h1 a ha; rw [Bool.and_eq_true] at this; exact this.1
  have hrow : ∀ a b, a < len → b < len → a ≠ b → F a b = true → F b a = false ∧ ∀ c, c < len → F b c = true → F a c = true := fun a b ha hb hne hab => by
    have h2 := h1 a ha
    rw [Bool.and_eq_true] at h2
    have h3 := allB_iff.1 h2.2 b hb
    unfold rowB passB at h3
    have e1 : (a == b) = false := by simp [hne]
    rw [e1, hab] at h3
    simp only [Bool.false_or, Bool.not_true, Bool.and_eq_true, Bool.not_eq_true'] at h3
    refine ⟨h3.1, fun c hc hbc => ?_⟩
    have h4 := allB_iff.1 h3.2 c hc
    rw [hbc] at h4
    simpa using h4
  have hpr := allB_iff.1 hp
  refine ⟨rfl, hr, fun a b ha hb h2 h3 => ?_, fun a b c ha hb hc h2 h3 => ?_, fun a b ha hb => ?_, fun a b ha hb => ?_⟩
  · by_cases e : a = b
    · exact e
    · rw [(hrow a b ha hb e h2).1] at h3; cases h3
  · by_cases e : a = b
    · rw [e]; exact h3
    · exact (hrow a b ha hb e h2).2 c hc h3
  · have := allB_iff.1 (hpr a ha) b hb
    unfold pairB at this
    rw [Bool.and_eq_true] at this
    exact this.1
  · have := allB_iff.1 (hpr a ha) b hb
    unfold pairB at this
    rw [Bool.and_eq_true] at this
    exact this.2

/-- The join. -/
def J (n : Nat) (F : Nat → Nat → Bool) (a b : Nat) : Nat := (near n F a b).getD 0
section
variable {n : Nat} {F : Nat → Nat → Bool} {a b c : Nat}
theorem near_J (h : IsLat n F) (ha : a < n) (hb : b < n) : near n F a b = some (J n F a b) := by
  obtain ⟨c, hc⟩ := Option.isSome_iff_exists.1 (h.joins a b ha hb)
  unfold J; rw [hc]; rfl
theorem J_spec (h : IsLat n F) (ha : a < n) (hb : b < n) : J n F a b < n ∧ F a (J n F a b) = true ∧ F b (J n F a b) = true ∧ ∀ o, o < n → F a o = true → F b o = true → F (J n F a b) o = true := by
  obtain ⟨h1, h2, _⟩ := of_findB (near_J h ha hb)
  unfold nearP at h2
  rw [Bool.and_eq_true, Bool.and_eq_true, allB_iff] at h2
  refine ⟨h1, h2.1.1, h2.1.2, fun o ho h3 h4 => ?_⟩
  have := h2.2 o ho
  rw [h3, h4] at this
  simpa using this
theorem J_unique (h : IsLat n F) (ha : a < n) (hb : b < n) (hc : c < n) (h1 : F a c = true) (h2 : F b c = true) (h3 : ∀ o, o < n → F a o = true → F b o = true → F c o = true) : J n F a b = c := by
  obtain ⟨j1, j2, j3, j4⟩ := J_spec h ha hb
  exact h.anti _ _ j1 hc (j4 c hc h1 h2) (h3 _ j1 j2 j3)
theorem joinI_J (h : IsLat n F) (ha : a < n) (hb : b < n) : joinI n F a b = (J n F a b : Nat) := by unfold joinI; rw [near_J h ha hb]
theorem J_comm (h : IsLat n F) (ha : a < n) (hb : b < n) : J n F a b = J n F b a := by
  obtain ⟨j1, j2, j3, j4⟩ := J_spec h hb ha
  exact J_unique h ha hb j1 j3 j2 fun o ho h1 h2 => j4 o ho h2 h1
theorem J_absorb (h : IsLat n F) (ha : a < n) (hb : b < n) : J n F a (J n (turn F) a b) = a := by
  obtain ⟨m1, m2, m3, m4⟩ := J_spec h.dual ha hb
  exact J_unique h ha m1 ha (h.refl a ha) m2 fun o ho h1 _ => h1
theorem J_flows (h : IsLat n F) (ha : a < n) (hb : b < n) : J n F a b = b ↔ F a b = true := by
  obtain ⟨j1, j2, j3, j4⟩ := J_spec h ha hb
  constructor
  · intro e; rw [e] at j2; exact j2
  · intro e; exact J_unique h ha hb hb e (h.refl b hb) fun o ho _ h2 => h2
theorem J_self (h : IsLat n F) (ha : a < n) : J n F a a = a := (J_flows h ha ha).2 (h.refl a ha)
theorem J_both (h : IsLat n F) (ha : a < n) (hb : b < n) (hc : c < n) : (F a c && F b c) = F (J n F a b) c := by
  obtain ⟨j1, j2, j3, j4⟩ := J_spec h ha hb
  rw [Bool.eq_iff_iff, Bool.and_eq_true]
  exact ⟨fun h1 => j4 c hc h1.1 h1.2, fun h1 => ⟨h.trans _ _ _ ha j1 hc j2 h1, h.trans _ _ _ hb j1 hc j3 h1⟩⟩
theorem J_assoc (h : IsLat n F) (ha : a < n) (hb : b < n) (hc : c < n) : J n F (J n F a b) c = J n F a (J n F b c) := by
  obtain ⟨j1, j2, j3, j4⟩ := J_spec h ha hb
  obtain ⟨k1, k2, k3, k4⟩ := J_spec h hb hc
  obtain ⟨d1, d2, d3, d4⟩ := J_spec h ha k1
  exact J_unique h j1 hc d1 (j4 _ d1 d2 (h.trans _ _ _ hb k1 d1 k2 d3)) (h.trans _ _ _ hc k1 d1 k3 d3) fun o ho h1 h2 =>
    d4 o ho (h.trans _ _ _ ha j1 ho j2 h1) (k4 o ho (h.trans _ _ _ hb j1 ho j3 h1) h2)
end
/-- The label beyond all. -/
theorem end_unique {n c : Nat} {F : Nat → Nat → Bool} (h : IsLat n F) (hc : c < n) (hall : ∀ j, j < n → F j c = true) : findB n (fun a => allB n (turn F a)) = some c := by
  refine findB_some hc (allB_true fun j hj => hall j hj) fun k hk => ?_
  cases e : allB n (turn F k)
  · rfl
  · have h1 := allB_iff.1 e c hc
    have := h.anti k c (by omega) hc (hall k (by omega)) h1
    omega
end Go.Proofs.Ytbhbiejaneencaa.L

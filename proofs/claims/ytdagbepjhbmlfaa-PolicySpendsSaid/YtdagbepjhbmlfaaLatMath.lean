/- The mathematics of tables of labels: orders, nearest labels; nothing of the program. -/
import Derived.Below
namespace Go.Proofs.Ytdagbepjhbmlfaa.L
set_option linter.unusedVariables false

def allB : Nat → (Nat → Bool) → Bool
  | 0, _ => true
  | n + 1, p => allB n p && p n
theorem allB_iff {p : Nat → Bool} : ∀ {n : Nat}, allB n p = true ↔ ∀ k, k < n → p k = true
  | 0 => by simp [allB]
  | n + 1 => by
    rw [allB, Bool.and_eq_true, allB_iff (n := n)]
    constructor
    · rintro ⟨h1, h2⟩ k hk
      rcases Nat.lt_or_ge k n with h | h
      · exact h1 k h
      · obtain rfl : k = n := by omega
        exact h2
    · intro h
      exact ⟨fun k hk => h k (by omega), h n (by omega)⟩
theorem allB_true {n : Nat} {p : Nat → Bool} (h : ∀ k, k < n → p k = true) : allB n p = true := allB_iff.2 h
theorem allB_false {n k : Nat} {p : Nat → Bool} (hk : k < n) (h : p k = false) : allB n p = false := by
  cases hb : allB n p
  · rfl
  · rw [allB_iff.1 hb k hk] at h; cases h

theorem upto {k : Nat} {p : Nat → Bool} (h : ∀ j, j < k → p j = true) (hk : p k = true) : ∀ j, j < k + 1 → p j = true := fun j hj => by
  rcases Nat.lt_or_ge j k with h1 | h1
  · exact h j h1
  · obtain rfl : j = k := by omega
    exact hk

theorem uptoF {k : Nat} {p : Nat → Bool} (h : ∀ j, j < k → p j = false) (hk : p k = false) : ∀ j, j < k + 1 → p j = false := fun j hj => by
  rcases Nat.lt_or_ge j k with h1 | h1
  · exact h j h1
  · obtain rfl : j = k := by omega
    exact hk

def findB (n : Nat) (p : Nat → Bool) : Option Nat := (List.range n).find? p
theorem findB_some {n c : Nat} {p : Nat → Bool} (hc : c < n) (hp : p c = true) (hb : ∀ k, k < c → p k = false) : findB n p = some c := by
  unfold findB
  rw [List.find?_range_eq_some]
  exact ⟨hp, List.mem_range.2 hc, fun j hj => by simp [hb j hj]⟩
theorem findB_none {n : Nat} {p : Nat → Bool} (h : ∀ k, k < n → p k = false) : findB n p = none := by
  unfold findB
  rw [List.find?_range_eq_none]
  exact fun k hk => by simp [h k hk]
theorem of_findB {n c : Nat} {p : Nat → Bool} (h : findB n p = some c) : c < n ∧ p c = true ∧ ∀ k, k < c → p k = false := by
  unfold findB at h
  rw [List.find?_range_eq_some] at h
  exact ⟨List.mem_range.1 h.2.1, h.1, fun k hk => by simpa using h.2.2 k hk⟩
theorem of_findB_none {n : Nat} {p : Nat → Bool} (h : findB n p = none) : ∀ k, k < n → p k = false := by
  unfold findB at h
  rw [List.find?_range_eq_none] at h
  exact fun k hk => by simpa using h k hk

/-- Is c the nearest label beyond a and b? -/
def nearP (n : Nat) (R : Nat → Nat → Bool) (a b c : Nat) : Bool := R a c && R b c && allB n fun o => !(R a o && R b o) || R c o
def near (n : Nat) (R : Nat → Nat → Bool) (a b : Nat) : Option Nat := findB n (nearP n R a b)
def passB (n : Nat) (F : Nat → Nat → Bool) (a b : Nat) : Bool := allB n fun c => !(F b c) || F a c
def rowB (n : Nat) (F : Nat → Nat → Bool) (a b : Nat) : Bool := a == b || !(F a b) || (!(F b a) && passB n F a b)
def orderB (n : Nat) (F : Nat → Nat → Bool) : Bool := allB n fun a => F a a && allB n (rowB n F a)
def turn (F : Nat → Nat → Bool) : Nat → Nat → Bool := fun a b => F b a
/-- The order, as its definition goes through it. -/
def cellB (n : Nat) (F : Nat → Nat → Bool) (a b : Nat) : Bool := !((a == b && !F a b) || (a != b && F a b && F b a)) && allB n fun c => !(F a b && F b c && !F a c)
def rorderB (n : Nat) (F : Nat → Nat → Bool) : Bool := allB n fun a => allB n (cellB n F a)
theorem rorder_eq (n : Nat) (F : Nat → Nat → Bool) : rorderB n F = orderB n F := by
  rw [Bool.eq_iff_iff]
  unfold rorderB orderB
  rw [allB_iff, allB_iff]
  constructor
  · intro h a ha
    have h1 := allB_iff.1 (h a ha)
    have haa : F a a = true := by
      have := h1 a ha
      cases hf : F a a <;> simp [cellB, hf] at this ⊢
    rw [haa, Bool.true_and, allB_iff]
    intro b hb
    have h2 := h1 b hb
    unfold cellB at h2
    rw [Bool.and_eq_true, allB_iff] at h2
    obtain ⟨h2, h3⟩ := h2
    unfold rowB passB
    by_cases e : a = b
    · simp [e]
    · cases hf : F a b
      · simp
      · have hba : F b a = false := by cases hg : F b a <;> simp [e, hf, hg] at h2 ⊢
        have hp : allB n (fun c => !F b c || F a c) = true := allB_true fun c hc => by
          have := h3 c hc
          cases h4 : F b c <;> cases h5 : F a c <;> simp [hf, h4, h5] at this ⊢
        simp [hba, hp]
  · intro h a ha
    have h1 := h a ha
    rw [Bool.and_eq_true, allB_iff] at h1
    obtain ⟨haa, h1⟩ := h1
    rw [allB_iff]
    intro b hb
    have h2 := h1 b hb
    unfold rowB passB at h2
    unfold cellB
    by_cases e : a = b
    · subst e
      have hp : allB n (fun c => !(F a a && F a c && !F a c)) = true := allB_true fun c hc => by cases F a c <;> simp
      rw [hp]
      simp [haa]
    · cases hf : F a b
      · have hp : allB n (fun c => !(false && F b c && !F a c)) = true := allB_true fun c hc => by simp
        rw [hp]
        simp [e]
      · have e1 : (a == b) = false := by simp [e]
        rw [hf, e1] at h2
        simp only [Bool.false_or, Bool.not_true, Bool.and_eq_true, Bool.not_eq_true'] at h2
        obtain ⟨h3, h4⟩ := h2
        rw [allB_iff] at h4
        have hp : allB n (fun c => !(true && F b c && !F a c)) = true := allB_true fun c hc => by
          have := h4 c hc
          cases h5 : F b c <;> cases h6 : F a c <;> simp [h5, h6] at this ⊢
        rw [hp, h3, e1]
        simp
def joinI (n : Nat) (F : Nat → Nat → Bool) (a b : Nat) : Int := match near n F a b with
  | some c => c
  | none => -1
def pairB (n : Nat) (F : Nat → Nat → Bool) (a b : Nat) : Bool := (near n F a b).isSome && (near n (turn F) a b).isSome
def pairsB (n : Nat) (F : Nat → Nat → Bool) : Bool := allB n fun a => allB n (pairB n F a)
theorem joinI_neg {n : Nat} {F : Nat → Nat → Bool} {a b : Nat} (h : (near n F a b).isSome = false) : joinI n F a b = -1 := by
  unfold joinI; cases hn : near n F a b
  · rfl
  · rw [hn] at h; cases h
theorem joinI_pos {n : Nat} {F : Nat → Nat → Bool} {a b : Nat} (h : (near n F a b).isSome = true) : ∃ c, near n F a b = some c ∧ joinI n F a b = c ∧ c < n := by
  unfold joinI; cases hn : near n F a b
  · rw [hn] at h; cases h
  · exact ⟨_, rfl, rfl, (of_findB hn).1⟩
def largeB (len : Nat) (L : Nat → Nat) : Bool := decide (40 < len) || !allB len fun r => decide (L r ≤ 40)
def sqB (len : Nat) (L : Nat → Nat) : Bool := decide (0 < len) && decide (len ≤ 6) && allB len fun r => L r == len
def wrongN (len : Nat) (L : Nat → Nat) (F : Nat → Nat → Bool) : Nat := if sqB len L = false then 1 else if orderB len F = false then 4 else if pairsB len F = false then 6 else 0
end Go.Proofs.Ytdagbepjhbmlfaa.L

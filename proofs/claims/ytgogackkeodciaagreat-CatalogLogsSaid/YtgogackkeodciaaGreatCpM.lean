/- Layer 21, plain: what is kept of records, and the view. -/
import Derived.Test.YtgogackkeodciaaGreatRcF
import Derived.Sort.Walk0
import Derived.Lib.Bytealg
namespace Go.Proofs.YtgogackkeodciaaGreat.W
open Go.RowKit Go.Sort
open Go.Proofs.YtgogackkeodciaaGreat.M Go.Proofs.YtgogackkeodciaaGreat.D
set_option linter.unusedVariables false
set_option linter.unusedSimpArgs false

/-- A record's key, as bytes. -/
def kb (r : Rc) : List UInt8 := r.key.data.toList
def laterL (k : List UInt8) (t : List Rc) : Bool := t.any fun x => decide (kb x = k)
def deadR (dead : Int) (r : Rc) : Bool := r.gone && decide (r.tick < dead)
/-- Is a record kept, with others behind it? -/
def keptB (dead : Int) (r : Rc) (t : List Rc) : Bool := decide (kb r = []) || (!laterL (kb r) t && !deadR dead r)
def keepF (dead : Int) : List Rc → List Rc
  | [] => []
  | r :: t => if keptB dead r t then r :: keepF dead t else keepF dead t
def liveB (r : Rc) (t : List Rc) : Bool := !decide (kb r = []) && !laterL (kb r) t && !r.gone
/-- Of each key the last one, if it is no tombstone. -/
def liveF : List Rc → List Rc
  | [] => []
  | r :: t => if liveB r t then r :: liveF t else liveF t
def insF (x : Rc) : List Rc → List Rc
  | [] => [x]
  | y :: t => if kb x < kb y then x :: y :: t else y :: insF x t
def viewF (l : List Rc) : List Rc := (liveF l).foldl (fun v x => insF x v) []
def byKey (l : List Rc) : Prop := l.Pairwise fun a b => kb a < kb b

theorem laterL_mem {k : List UInt8} {t : List Rc} : laterL k t = true ↔ ∃ x ∈ t, kb x = k := by
  unfold laterL; rw [List.any_eq_true]; simp
theorem laterL_append (k : List UInt8) (a b : List Rc) : laterL k (a ++ b) = (laterL k a || laterL k b) := by unfold laterL; rw [List.any_append]
theorem keepF_sub (dead : Int) : ∀ l, (keepF dead l).Sublist l
  | [] => List.Sublist.refl _
  | r :: t => by
    unfold keepF
    split
    · exact (keepF_sub dead t).cons_cons r
    · exact (keepF_sub dead t).cons r
theorem laterL_keep {k : List UInt8} {dead : Int} {t : List Rc} (h : laterL k t = false) : laterL k (keepF dead t) = false := by
  cases he : laterL k (keepF dead t) with
  | false => rfl
  | true =>
    obtain ⟨x, hx, e⟩ := laterL_mem.1 he
    rw [laterL_mem.2 ⟨x, (keepF_sub dead t).subset hx, e⟩] at h
    cases h
theorem keptB_keep {dead : Int} {r : Rc} {t : List Rc} (h : keptB dead r t = true) : keptB dead r (keepF dead t) = true := by
  unfold keptB at *
  rw [Bool.or_eq_true] at *
  rcases h with h | h
  · exact .inl h
  · rw [Bool.and_eq_true] at h
    obtain ⟨h1, h2⟩ := h
    exact .inr (by rw [laterL_keep (by simpa using h1), h2]; rfl)
theorem keep_keep (dead : Int) : ∀ l, keepF dead (keepF dead l) = keepF dead l
  | [] => rfl
  | r :: t => by
    show keepF dead (if keptB dead r t then r :: keepF dead t else keepF dead t) = if keptB dead r t then r :: keepF dead t else keepF dead t
    cases h : keptB dead r t with
    | false => simp only [Bool.false_eq_true, if_false]; exact keep_keep dead t
    | true =>
      simp only [if_true]
      show (if keptB dead r (keepF dead t) then r :: keepF dead (keepF dead t) else keepF dead (keepF dead t)) = _
      rw [keptB_keep h, if_pos rfl, keep_keep dead t]
theorem live_keep (dead : Int) (more : List Rc) : ∀ l, liveF (keepF dead l ++ more) = liveF (l ++ more)
  | [] => rfl
  | r :: t => by
    show liveF ((if keptB dead r t then r :: keepF dead t else keepF dead t) ++ more) = if liveB r (t ++ more) then r :: liveF (t ++ more) else liveF (t ++ more)
    cases h : keptB dead r t with
    | true =>
      simp only [if_true]
      show (if liveB r (keepF dead t ++ more) then r :: liveF (keepF dead t ++ more) else liveF (keepF dead t ++ more)) = _
      have e : liveB r (keepF dead t ++ more) = liveB r (t ++ more) := by
        unfold liveB
        rw [laterL_append, laterL_append]
        unfold keptB at h
        rw [Bool.or_eq_true, Bool.and_eq_true] at h
        rcases h with h | ⟨h, _⟩
        · rw [h]; rfl
        · have h1 : laterL (kb r) t = false := by simpa using h
          rw [laterL_keep h1, h1]
      rw [e, live_keep dead more t]
    | false =>
      simp only [Bool.false_eq_true, if_false]
      have e : liveB r (t ++ more) = false := by
        unfold keptB deadR at h
        unfold liveB
        rw [laterL_append]
        cases h1 : decide (kb r = []) <;> cases h2 : laterL (kb r) t <;> cases h3 : r.gone <;> simp [h1, h2, h3] at h ⊢
      rw [e, live_keep dead more t]
      rfl
theorem view_keep (dead : Int) (l more : List Rc) : viewF (keepF dead l ++ more) = viewF (l ++ more) := by unfold viewF; rw [live_keep]
theorem view_keep0 (dead : Int) (l : List Rc) : viewF (keepF dead l) = viewF l := by have := view_keep dead l []; simpa using this

/-! ### Of the view -/
theorem liveF_mem {l : List Rc} {x : Rc} : x ∈ liveF l ↔ ∃ i : Nat, l[i]? = some x ∧ liveB x (l.drop (i + 1)) = true := by
  induction l with
  | nil => simp [liveF]
  | cons r t ih =>
    show x ∈ (if liveB r t then r :: liveF t else liveF t) ↔ _
    have hs : (∃ i : Nat, (r :: t)[i]? = some x ∧ liveB x ((r :: t).drop (i + 1)) = true) ↔ (r = x ∧ liveB r t = true) ∨ ∃ i : Nat, t[i]? = some x ∧ liveB x (t.drop (i + 1)) = true := by
      constructor
      · rintro ⟨i, h1, h2⟩
        cases i with
        | zero => simp at h1; subst h1; exact .inl ⟨rfl, by simpa using h2⟩
        | succ i => exact .inr ⟨i, by simpa using h1, by simpa using h2⟩
      · rintro (⟨rfl, h⟩ | ⟨i, h1, h2⟩)
        · exact ⟨0, rfl, by simpa using h⟩
        · exact ⟨i + 1, by simpa using h1, by simpa using h2⟩
    rw [hs, ← ih]
    cases h : liveB r t with
    | true => simp [List.mem_cons, eq_comm]
    | false => simp
theorem liveB_key {x : Rc} {t : List Rc} (h : liveB x t = true) : kb x ≠ [] ∧ laterL (kb x) t = false ∧ x.gone = false := by
  unfold liveB at h
  cases h1 : laterL (kb x) t <;> cases h2 : x.gone <;> simp [h1, h2] at h ⊢
  exact h
/-- Keys of live ones are unlike. -/
theorem liveF_keys : ∀ l, (liveF l).Pairwise fun a b => kb a ≠ kb b
  | [] => List.Pairwise.nil
  | r :: t => by
    unfold liveF
    split
    · rename_i h
      refine List.pairwise_cons.2 ⟨fun y hy e => ?_, liveF_keys t⟩
      obtain ⟨i, h1, _⟩ := liveF_mem.1 hy
      have := (liveB_key h).2.1
      rw [laterL_mem.2 ⟨y, List.mem_of_getElem? h1, e.symm⟩] at this
      cases this
    · exact liveF_keys t
theorem insF_perm (x : Rc) : ∀ l, (insF x l).Perm (x :: l)
  | [] => List.Perm.refl _
  | y :: t => by
    unfold insF
    split
    · exact List.Perm.refl _
    · exact ((insF_perm x t).cons y).trans (List.Perm.swap x y t)
theorem kb_tri {a b : List UInt8} (h : ¬ a < b) (hne : a ≠ b) : b < a := by
  rcases List.le_total a b with h1 | h1
  · rcases List.le_iff_lt_or_eq.1 h1 with h2 | h2
    · exact absurd h2 h
    · exact absurd h2 hne
  · rcases List.le_iff_lt_or_eq.1 h1 with h2 | h2
    · exact h2
    · exact absurd h2.symm hne
theorem insF_by {x : Rc} : ∀ {l : List Rc}, byKey l → (∀ y ∈ l, kb y ≠ kb x) → byKey (insF x l)
  | [], _, _ => by unfold insF byKey; simp
  | y :: t, h, hne => by
    obtain ⟨h1, h2⟩ := List.pairwise_cons.1 h
    unfold insF
    split
    · rename_i hb
      exact List.pairwise_cons.2 ⟨fun q hq => by
        rcases List.mem_cons.1 hq with rfl | hq
        · exact hb
        · exact List.lt_trans hb (h1 q hq), h⟩
    · rename_i hb
      refine List.pairwise_cons.2 ⟨fun q hq => ?_, insF_by h2 (fun z hz => hne z (by simp [hz]))⟩
      rcases List.mem_cons.1 ((insF_perm x t).mem_iff.1 hq) with rfl | hq
      · exact kb_tri hb (fun e => hne y (by simp) e.symm)
      · exact h1 q hq
theorem foldIns (l : List Rc) : ∀ v, (l.foldl (fun v x => insF x v) v).Perm (v ++ l) := by
  induction l with
  | nil => intro v; simp
  | cons x t ih =>
    intro v
    exact (ih (insF x v)).trans (((insF_perm x v).append_right t).trans (by
      show (x :: (v ++ t)).Perm (v ++ x :: t)
      exact List.perm_middle.symm))
theorem foldIns_by (l : List Rc) : ∀ v, byKey v → (v ++ l).Pairwise (fun a b => kb a ≠ kb b) → byKey (l.foldl (fun v x => insF x v) v) := by
  induction l with
  | nil => intro v h _; exact h
  | cons x t ih =>
    intro v h hp
    have hp2 : (x :: (v ++ t)).Pairwise (fun a b => kb a ≠ kb b) := (List.perm_middle.pairwise_iff (fun {a b} (h : kb a ≠ kb b) => h.symm)).1 hp
    obtain ⟨h1, h2⟩ := List.pairwise_cons.1 hp2
    refine ih (insF x v) (insF_by h (fun y hy => (h1 y (by simp [hy])).symm)) ?_
    exact ((((insF_perm x v).append_right t)).pairwise_iff (fun {a b} (h : kb a ≠ kb b) => h.symm)).2 hp2
theorem viewF_perm (l : List Rc) : (viewF l).Perm (liveF l) := by have := foldIns (liveF l) []; rw [List.nil_append] at this; exact this
theorem viewF_by (l : List Rc) : byKey (viewF l) := foldIns_by (liveF l) [] List.Pairwise.nil (by simpa using liveF_keys l)
theorem by_unique : ∀ {a b : List Rc}, a.Perm b → byKey a → byKey b → a = b
  | [], b, hp, _, _ => (List.Perm.nil_eq hp)
  | x :: a, [], hp, _, _ => by have := hp.length_eq; simp at this
  | x :: a, y :: b, hp, ha, hb => by
    obtain ⟨a1, a2⟩ := List.pairwise_cons.1 ha
    obtain ⟨b1, b2⟩ := List.pairwise_cons.1 hb
    have hxy : x = y := by
      have h1 : x ∈ y :: b := hp.mem_iff.1 (by simp)
      have h2 : y ∈ x :: a := hp.mem_iff.2 (by simp)
      rcases List.mem_cons.1 h1 with e | h1
      · exact e
      rcases List.mem_cons.1 h2 with e | h2
      · exact e.symm
      exact absurd (List.lt_trans (b1 x h1) (a1 y h2)) (List.lt_irrefl _)
    subst hxy
    rw [by_unique (List.Perm.cons_inv hp) a2 b2]
theorem view_is {l v : List Rc} (hp : v.Perm (liveF l)) (hs : v.Pairwise fun a b => ¬ kb b < kb a) : v = viewF l := by
  have hk : v.Pairwise fun a b => kb a ≠ kb b := (hp.pairwise_iff (fun {a b} (h : kb a ≠ kb b) => h.symm)).2 (liveF_keys l)
  refine by_unique (hp.trans (viewF_perm l).symm) ?_ (viewF_by l)
  exact hs.imp₂ (fun a b h1 h2 => kb_tri h1 h2.symm) hk
theorem liveF_len (l : List Rc) : (liveF l).length ≤ l.length := by
  induction l with
  | nil => exact Nat.le_refl _
  | cons r t ih => unfold liveF; split <;> simp <;> omega
theorem viewF_len (l : List Rc) : (viewF l).length ≤ l.length := by rw [(viewF_perm l).length_eq]; exact liveF_len l
theorem viewF_mem {l : List Rc} {x : Rc} (h : x ∈ viewF l) : x ∈ l ∧ kb x ≠ [] ∧ x.gone = false := by
  obtain ⟨i, h1, h2⟩ := liveF_mem.1 ((viewF_perm l).mem_iff.1 h)
  have h3 := liveB_key h2
  exact ⟨List.mem_of_getElem? h1, h3.1, h3.2.2⟩

/-! ### Keys are held against one another -/
theorem cmp_lt : ∀ (a b : List UInt8), (Lib.compareBytes a b < 0) ↔ a < b
  | [], [] => by simp [Lib.compareBytes]
  | [], _ :: _ => by simp [Lib.compareBytes]
  | _ :: _, [] => by simp [Lib.compareBytes]
  | a :: ta, b :: tb => by
    unfold Lib.compareBytes
    rw [List.cons_lt_cons_iff]
    by_cases h1 : a < b
    · simp [h1]
    · rw [if_neg h1]
      by_cases h2 : b < a
      · rw [if_pos h2]
        have hne : ¬ a = b := fun e => by subst e; exact h1 h2
        simp [h1, hne]
      · rw [if_neg h2, cmp_lt ta tb]
        have he : a = b := UInt8.le_antisymm (UInt8.not_lt.1 h2) (UInt8.not_lt.1 h1)
        simp [he]
theorem drop_of {l : List Rc} {m : Nat} {r : Rc} (h : l[m]? = some r) : l.drop m = r :: l.drop (m + 1) := by
  obtain ⟨hm, rfl⟩ := List.getElem?_eq_some_iff.1 h
  exact List.drop_eq_getElem_cons hm
theorem keepF_len (dead : Int) (l : List Rc) : (keepF dead l).length ≤ l.length := (keepF_sub dead l).length_le
end Go.Proofs.YtgogackkeodciaaGreat.W

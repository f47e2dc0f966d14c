/- A pool's segments as a list of owners (0: free); nothing of the program. -/
import Derived.WalkKit
namespace Go.Proofs.Ytoegohofmhijgaa.M
open Go.RowKit
set_option linter.unusedVariables false

/-- The lowest free segment, if k is it; that there is none. -/
def FirstAt (l : List Int) (k : Nat) : Prop := l[k]? = some 0 ∧ ∀ j : Nat, j < k → l[j]? ≠ some 0
def Full (l : List Int) : Prop := ∀ j : Nat, l[j]? ≠ some 0
theorem first_or (l : List Int) : (∃ k, FirstAt l k) ∨ Full l := by
  induction l with
  | nil => exact .inr (fun j => by simp)
  | cons o l ih =>
    by_cases h : o = 0
    · exact .inl ⟨0, by simp [h], fun j hj => by omega⟩
    · rcases ih with ⟨k, h1, h2⟩ | h1
      · refine .inl ⟨k + 1, by simpa using h1, fun j hj => ?_⟩
        cases j with
        | zero => simpa using h
        | succ j => simpa using h2 j (by omega)
      · refine .inr (fun j => ?_)
        cases j with
        | zero => simpa using h
        | succ j => simpa using h1 j
/-- How many are free; those of a log, rising. -/
def freeN (l : List Int) : Nat := l.count 0
def ofL (l : List Int) (g : Int) : List Nat := (List.range l.length).filter (fun i => l[i]? == some g)
theorem freeN_snoc (l : List Int) (o : Int) : freeN (l ++ [o]) = freeN l + if o = 0 then 1 else 0 := by
  unfold freeN
  rw [List.count_append]
  by_cases h : o = 0
  · subst h; simp
  · rw [if_neg h]; simp [h]
theorem ofL_snoc (l : List Int) (o g : Int) : ofL (l ++ [o]) g = if o = g then ofL l g ++ [l.length] else ofL l g := by
  unfold ofL
  rw [List.length_append, List.length_singleton, List.range_succ, List.filter_append]
  have e1 : (List.range l.length).filter (fun i => (l ++ [o])[i]? == some g) = (List.range l.length).filter (fun i => l[i]? == some g) := by
    apply List.filter_congr
    intro i hi
    rw [List.getElem?_append_left (by simpa using hi)]
  rw [e1]
  by_cases h : o = g
  · rw [if_pos h]; simp [h]
  · rw [if_neg h]; simp [h]
theorem ptake_snoc (l : List Int) (k : Nat) (o : Int) (h : l[k]? = some o) : l.take (k + 1) = l.take k ++ [o] := by
  rw [List.take_add_one, h]; rfl
theorem freeN_take (l : List Int) (k : Nat) (o : Int) (h : l[k]? = some o) : freeN (l.take (k + 1)) = freeN (l.take k) + if o = 0 then 1 else 0 := by
  rw [ptake_snoc l k o h, freeN_snoc]
theorem ofL_take (l : List Int) (k : Nat) (o g : Int) (h : l[k]? = some o) : ofL (l.take (k + 1)) g = if o = g then ofL (l.take k) g ++ [k] else ofL (l.take k) g := by
  have hk : k < l.length := (List.getElem?_eq_some_iff.1 h).1
  rw [ptake_snoc l k o h, ofL_snoc, List.length_take, Nat.min_eq_left (by omega)]
theorem freeN_le (l : List Int) : freeN l ≤ l.length := List.count_le_length
theorem ofL_le (l : List Int) (g : Int) : (ofL l g).length ≤ l.length := by
  unfold ofL
  exact Nat.le_trans (List.length_filter_le _ _) (by simp)
/-- A pool with a segment that is somebody else's, by parts. -/
theorem set_take (l : List Int) (i k : Nat) (g o : Int) (h : l[k]? = some o) : (l.set i g).take (k + 1) = (l.set i g).take k ++ [if k = i then g else o] := by
  have hk : k < l.length := (List.getElem?_eq_some_iff.1 h).1
  apply ptake_snoc
  by_cases e : k = i
  · subst e; rw [if_pos rfl, List.getElem?_set_self hk]
  · rw [if_neg e, List.getElem?_set_ne (by omega), h]
/-- Taken and given back, all is as it was. -/
theorem take_give (l : List Int) (k : Nat) (g : Int) (h : FirstAt l k) : (l.set k g).set k 0 = l := by
  have hk : k < l.length := (List.getElem?_eq_some_iff.1 h.1).1
  have e : l[k] = 0 := by
    have := h.1
    rw [List.getElem?_eq_getElem hk] at this
    exact Option.some.inj this
  rw [List.set_set]
  conv => rhs; rw [← List.set_getElem_self (as := l) hk, e]
end Go.Proofs.Ytoegohofmhijgaa.M

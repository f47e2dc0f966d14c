/- A pool's segments as a list of owners (0: free); nothing of the program. What the calls of a pool come to; nothing of the program. -/
import Derived.WalkKit
import Derived.Test.YtahljbjgenepaaaGreatDoorFlat
section
namespace Go.Proofs.YtahljbjgenepaaaGreatDoor.M
open Go.RowKit
set_option linter.unusedVariables false

/-- The lowest free segment, if k is it; that there is none. -/
def FirstAt (l : List Int) (k : Nat) : Prop := l[k]? = some 0 ∧ ∀ j : Nat, j < k → l[j]? ≠ some 0
def Full (l : List Int) : Prop := ∀ j : Nat, l[j]? ≠ some 0
theorem first_or (l : List Int) : (∃ k, FirstAt l k) ∨ Full l := by
  induction l with
  | nil => exact .inr (fun j => by simp)
  | cons o l ih =>
    by_cases h : o = 0
    · exact .inl ⟨0, by simp [h], fun j hj => by omega⟩
    · rcases ih with ⟨k, h1, h2⟩ | h1
      · refine .inl ⟨k + 1, by simpa using h1, fun j hj => ?_⟩
        cases j with
        | zero => simpa using h
        | succ j => simpa using h2 j (by omega)
      · refine .inr (fun j => ?_)
        cases j with
        | zero => simpa using h
        | succ j => simpa using h1 j
/-- How many are free; those of a log, rising. -/
def freeN (l : List Int) : Nat := l.count 0
def ofL (l : List Int) (g : Int) : List Nat := (List.range l.length).filter (fun i => l[i]? == some g)
theorem freeN_snoc (l : List Int) (o : Int) : freeN (l ++ [o]) = freeN l + if o = 0 then 1 else 0 := by
  unfold freeN
  rw [List.count_append]
  by_cases h : o = 0
  · subst h; simp
  · rw [if_neg h]; simp [h]
theorem ofL_snoc (l : List Int) (o g : Int) : ofL (l ++ [o]) g = if o = g then ofL l g ++ [l.length] else ofL l g := by
  unfold ofL
  rw [List.length_append, List.length_singleton, List.range_succ, List.filter_append]
  have e1 : (List.range l.length).filter (fun i => (l ++ [o])[i]? == some g) = (List.range l.length).filter (fun i => l[i]? == some g) := by
    apply List.filter_congr
    intro i hi
    rw [List.getElem?_append_left (by simpa using hi)]
  rw [e1]
  by_cases h : o = g
  · rw [if_pos h]; simp [h]
  · rw [if_neg h]; simp [h]
theorem ptake_snoc (l : List Int) (k : Nat) (o : Int) (h : l[k]? = some o) : l.take (k + 1) = l.take k ++ [o] := by
  rw [List.take_add_one, h]; rfl
theorem freeN_take (l : List Int) (k : Nat) (o : Int) (h : l[k]? = some o) : freeN (l.take (k + 1)) = freeN (l.take k) + if o = 0 then 1 else 0 := by
  rw [ptake_snoc l k o h, freeN_snoc]
theorem ofL_take (l : List Int) (k : Nat) (o g : Int) (h : l[k]? = some o) : ofL (l.take (k + 1)) g = if o = g then ofL (l.take k) g ++ [k] else ofL (l.take k) g := by
  have hk : k < l.length := (List.getElem?_eq_some_iff.1 h).1
  rw [ptake_snoc l k o h, ofL_snoc, List.length_take, Nat.min_eq_left (by omega)]
theorem freeN_le (l : List Int) : freeN l ≤ l.length := List.count_le_length
theorem ofL_le (l : List Int) (g : Int) : (ofL l g).length ≤ l.length := by
  unfold ofL
  exact Nat.le_trans (List.length_filter_le _ _) (by simp)
/-- A pool with a segment that is somebody else's, by parts. -/
theorem set_take (l : List Int) (i k : Nat) (g o : Int) (h : l[k]? = some o) : (l.set i g).take (k + 1) = (l.set i g).take k ++ [if k = i then g else o] := by
  have hk : k < l.length := (List.getElem?_eq_some_iff.1 h).1
  apply ptake_snoc
  by_cases e : k = i
  · subst e; rw [if_pos rfl, List.getElem?_set_self hk]
  · rw [if_neg e, List.getElem?_set_ne (by omega), h]
/-- Taken and given back, all is as it was. -/
theorem take_give (l : List Int) (k : Nat) (g : Int) (h : FirstAt l k) : (l.set k g).set k 0 = l := by
  have hk : k < l.length := (List.getElem?_eq_some_iff.1 h.1).1
  have e : l[k] = 0 := by
    have := h.1
    rw [List.getElem?_eq_getElem hk] at this
    exact Option.some.inj this
  rw [List.set_set]
  conv => rhs; rw [← List.set_getElem_self (as := l) hk, e]
end Go.Proofs.YtahljbjgenepaaaGreatDoor.M
end
section
namespace Go.Proofs.YtahljbjgenepaaaGreatDoor.M
open Go.RowKit
open Go.Proofs.YtahljbjgenepaaaGreatDoor.D
set_option linter.unusedVariables false

/-- Owners as cells. -/
def rowP (l : List Int) : List Value := l.map (Value.int .i64)
theorem rowP_len (l : List Int) : (rowP l).length = l.length := by simp [rowP]
theorem rowP_at {l : List Int} {k : Nat} {o : Int} (h : l[k]? = some o) : (rowP l)[k]? = some (.int .i64 o) := by simp [rowP, h]
theorem rowP_set (l : List Int) (k : Nat) (g : Int) : (rowP l).set k (.int .i64 g) = rowP (l.set k g) := by unfold rowP; rw [List.map_set]
/-- All owners may be. -/
def GoodO (l : List Int) : Prop := ∀ o ∈ l, 0 ≤ o ∧ o ≤ 65535
theorem GoodO.set {l : List Int} (h : GoodO l) (k : Nat) {g : Int} (hg : 0 ≤ g ∧ g ≤ 65535) : GoodO (l.set k g) := fun o ho => by
  rcases List.mem_or_eq_of_mem_set ho with h1 | h1
  · exact h o h1
  · rw [h1]; exact hg
theorem GoodO.zero (n : Nat) : GoodO (List.replicate n 0) := fun o ho => by rw [List.eq_of_mem_replicate ho]; omega
theorem GoodO.at_ {l : List Int} (h : GoodO l) {k : Nat} {o : Int} (hk : l[k]? = some o) : 0 ≤ o ∧ o ≤ 65535 := h o (List.mem_of_getElem? hk)
def okG (g : Int) : Bool := decide (1 ≤ g ∧ g ≤ 65535)
/-- What a Take comes to: segment, stamp, error, owners and count. -/
def Tk (l : List Int) (ep ct : Nat) (g seg : Int) (st : Nat) (er : Int) (l' : List Int) (ct' : Nat) : Prop :=
  (okG g = false ∧ seg = 0 ∧ st = 0 ∧ er = 1 ∧ l' = l ∧ ct' = ct) ∨
  (okG g = true ∧ (Full l ∨ 65536 ≤ ct) ∧ seg = 0 ∧ st = 0 ∧ er = 32 ∧ l' = l ∧ ct' = ct) ∨
  (okG g = true ∧ ∃ k : Nat, FirstAt l k ∧ ct < 65536 ∧ seg = k ∧ st = 65536 * ep + ct ∧ er = 0 ∧ l' = l.set k g ∧ ct' = ct + 1)
theorem tk_any (l : List Int) (ep ct : Nat) (g : Int) : ∃ seg st er l' ct', Tk l ep ct g seg st er l' ct' := by
  cases hg : okG g with
  | false => exact ⟨0, 0, 1, l, ct, .inl ⟨hg, rfl, rfl, rfl, rfl, rfl⟩⟩
  | true =>
    by_cases hc : ct < 65536
    · rcases first_or l with ⟨k, hk⟩ | hf
      · exact ⟨k, _, 0, _, _, .inr (.inr ⟨hg, k, hk, hc, rfl, rfl, rfl, rfl, rfl⟩)⟩
      · exact ⟨0, 0, 32, l, ct, .inr (.inl ⟨hg, .inl hf, rfl, rfl, rfl, rfl, rfl⟩)⟩
    · exact ⟨0, 0, 32, l, ct, .inr (.inl ⟨hg, .inr (by omega), rfl, rfl, rfl, rfl, rfl⟩)⟩
theorem okG_good {g : Int} (h : okG g = true) : 0 ≤ g ∧ g ≤ 65535 := by unfold okG at h; simp at h; omega
theorem Tk.good {l : List Int} {ep ct : Nat} {g seg : Int} {st : Nat} {er : Int} {l' : List Int} {ct' : Nat} (h : Tk l ep ct g seg st er l' ct') (hg : GoodO l) : GoodO l' := by
  rcases h with ⟨_, _, _, _, rfl, _⟩ | ⟨_, _, _, _, _, rfl, _⟩ | ⟨ho, k, _, _, _, _, _, rfl, _⟩
  · exact hg
  · exact hg
  · exact hg.set k (okG_good ho)
theorem Tk.len {l : List Int} {ep ct : Nat} {g seg : Int} {st : Nat} {er : Int} {l' : List Int} {ct' : Nat} (h : Tk l ep ct g seg st er l' ct') : l'.length = l.length := by
  rcases h with ⟨_, _, _, _, rfl, _⟩ | ⟨_, _, _, _, _, rfl, _⟩ | ⟨_, k, _, _, _, _, _, rfl, _⟩ <;> simp
theorem Tk.count {l : List Int} {ep ct : Nat} {g seg : Int} {st : Nat} {er : Int} {l' : List Int} {ct' : Nat} (h : Tk l ep ct g seg st er l' ct') : ct' ≤ ct + 1 := by
  rcases h with ⟨_, _, _, _, _, rfl⟩ | ⟨_, _, _, _, _, _, rfl⟩ | ⟨_, k, _, _, _, _, _, _, rfl⟩ <;> omega
/-- What a Claim comes to. -/
def Cl (l : List Int) (s g er : Int) (l' : List Int) : Prop :=
  (¬ (0 ≤ s ∧ s < (l.length : Int)) ∧ er = 20 ∧ l' = l) ∨
  ((0 ≤ s ∧ s < (l.length : Int)) ∧ okG g = false ∧ er = 1 ∧ l' = l) ∨
  ((0 ≤ s ∧ s < (l.length : Int)) ∧ okG g = true ∧ (∃ o, l[s.toNat]? = some o ∧ o ≠ 0) ∧ er = 8 ∧ l' = l) ∨
  ((0 ≤ s ∧ s < (l.length : Int)) ∧ okG g = true ∧ l[s.toNat]? = some 0 ∧ er = 0 ∧ l' = l.set s.toNat g)
theorem cl_any (l : List Int) (s g : Int) : ∃ er l', Cl l s g er l' := by
  by_cases hs : 0 ≤ s ∧ s < (l.length : Int)
  · cases hg : okG g with
    | false => exact ⟨1, l, .inr (.inl ⟨hs, hg, rfl, rfl⟩)⟩
    | true =>
      have hk : s.toNat < l.length := by omega
      by_cases h0 : l[s.toNat] = 0
      · exact ⟨0, _, .inr (.inr (.inr ⟨hs, hg, by rw [List.getElem?_eq_getElem hk, h0], rfl, rfl⟩))⟩
      · exact ⟨8, l, .inr (.inr (.inl ⟨hs, hg, ⟨_, List.getElem?_eq_getElem hk, h0⟩, rfl, rfl⟩))⟩
  · exact ⟨20, l, .inl ⟨hs, rfl, rfl⟩⟩
theorem Cl.good {l : List Int} {s g er : Int} {l' : List Int} (h : Cl l s g er l') (hg : GoodO l) : GoodO l' := by
  rcases h with ⟨_, _, rfl⟩ | ⟨_, _, _, rfl⟩ | ⟨_, _, _, _, rfl⟩ | ⟨_, ho, _, _, rfl⟩
  · exact hg
  · exact hg
  · exact hg
  · exact hg.set _ (okG_good ho)
theorem Cl.len {l : List Int} {s g er : Int} {l' : List Int} (h : Cl l s g er l') : l'.length = l.length := by
  rcases h with ⟨_, _, rfl⟩ | ⟨_, _, _, rfl⟩ | ⟨_, _, _, _, rfl⟩ | ⟨_, _, _, _, rfl⟩ <;> simp
/-- What a Give comes to. -/
def Gv (l : List Int) (s er : Int) (l' : List Int) : Prop :=
  (¬ (0 ≤ s ∧ s < (l.length : Int)) ∧ er = 20 ∧ l' = l) ∨
  ((0 ≤ s ∧ s < (l.length : Int)) ∧ l[s.toNat]? = some 0 ∧ er = 6 ∧ l' = l) ∨
  ((0 ≤ s ∧ s < (l.length : Int)) ∧ (∃ o, l[s.toNat]? = some o ∧ o ≠ 0) ∧ er = 0 ∧ l' = l.set s.toNat 0)
theorem gv_any (l : List Int) (s : Int) : ∃ er l', Gv l s er l' := by
  by_cases hs : 0 ≤ s ∧ s < (l.length : Int)
  · have hk : s.toNat < l.length := by omega
    by_cases h0 : l[s.toNat] = 0
    · exact ⟨6, l, .inr (.inl ⟨hs, by rw [List.getElem?_eq_getElem hk, h0], rfl, rfl⟩)⟩
    · exact ⟨0, _, .inr (.inr ⟨hs, ⟨_, List.getElem?_eq_getElem hk, h0⟩, rfl, rfl⟩)⟩
  · exact ⟨20, l, .inl ⟨hs, rfl, rfl⟩⟩
theorem Gv.good {l : List Int} {s er : Int} {l' : List Int} (h : Gv l s er l') (hg : GoodO l) : GoodO l' := by
  rcases h with ⟨_, _, rfl⟩ | ⟨_, _, _, rfl⟩ | ⟨_, _, _, rfl⟩
  · exact hg
  · exact hg
  · exact hg.set _ (by omega)
theorem Gv.len {l : List Int} {s er : Int} {l' : List Int} (h : Gv l s er l') : l'.length = l.length := by
  rcases h with ⟨_, _, rfl⟩ | ⟨_, _, _, rfl⟩ | ⟨_, _, _, rfl⟩ <;> simp
/-- A log's segments, as both tell them; how many are free. -/
def ofP (l : List Int) (g : Int) : List Nat := if g = 0 then [] else ofL l g
theorem ofL_free_take (l : List Int) (k : Nat) (hk : k ≤ l.length) : (ofL (l.take k) 0).length = freeN (l.take k) := by
  induction k with
  | zero => rfl
  | succ k ih =>
    have h : l[k]? = some l[k] := List.getElem?_eq_getElem (by omega)
    rw [ofL_take l k _ 0 h, freeN_take l k _ h]
    by_cases h0 : l[k] = 0
    · rw [if_pos h0, if_pos h0, List.length_append, ih (by omega)]; rfl
    · rw [if_neg h0, if_neg h0, ih (by omega)]; rfl
theorem ofL_free (l : List Int) : (ofL l 0).length = freeN l := by
  have h := ofL_free_take l l.length (Nat.le_refl _)
  rwa [List.take_length] at h
theorem ofL_none_take {l : List Int} (h : GoodO l) {g : Int} (hg : ¬ (0 ≤ g ∧ g ≤ 65535)) (k : Nat) (hk : k ≤ l.length) : ofL (l.take k) g = [] := by
  induction k with
  | zero => rfl
  | succ k ih =>
    have h0 : l[k]? = some l[k] := List.getElem?_eq_getElem (by omega)
    rw [ofL_take l k _ g h0, if_neg (fun e => hg (by rw [← e]; exact h.at_ h0)), ih (by omega)]
theorem ofL_none {l : List Int} (h : GoodO l) {g : Int} (hg : ¬ (0 ≤ g ∧ g ≤ 65535)) : ofL l g = [] := by
  have e := ofL_none_take h hg l.length (Nat.le_refl _)
  rwa [List.take_length] at e
end Go.Proofs.YtahljbjgenepaaaGreatDoor.M
end

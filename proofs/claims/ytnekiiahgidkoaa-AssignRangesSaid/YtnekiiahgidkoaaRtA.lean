/- Package retain: bounded, Right, Start. -/
import Derived.Test.YtnekiiahgidkoaaRcF
import Derived.Test.YtnekiiahgidkoaaStops
import Derived.Deep.Cut
namespace Go.Proofs.Ytnekiiahgidkoaa.W
open Go.RowKit Go.Sort
open Go.Proofs.Ytnekiiahgidkoaa.M Go.Proofs.Ytnekiiahgidkoaa.D Go.Proofs.Ytnekiiahgidkoaa.Z
set_option linter.unusedVariables false
set_option linter.unusedSimpArgs false

/-- A number, or the one next to it from 0 to 2^40. -/
def clampI (n : Int) : Int := if n < 0 then 0 else if 1099511627776 < n then 1099511627776 else n
theorem clampI_bounds (n : Int) : 0 ≤ clampI n ∧ clampI n ≤ 1099511627776 := by unfold clampI; split <;> (try split) <;> omega
theorem clampI_mono {a b : Int} (h : a ≤ b) : clampI a ≤ clampI b := by unfold clampI; repeat' split
                                                                        all_goals omega
/-- How many bytes records have. -/
def bytesL (rs : List Rc) : Nat := (packL rs).length
/-- What may stay at a record's place. -/
def staysP (now age size : Int) (r : Rc) (t : List Rc) : Prop := (size = 0 ∨ (bytesL (r :: t) : Int) ≤ size) ∧ (age = 0 ∨ now - r.tick ≤ age)
instance (now age size : Int) (r : Rc) (t : List Rc) : Decidable (staysP now age size r t) := by unfold staysP; infer_instance
/-- The first one that stays (20.1). -/
def startF (now age size next : Int) : List Rc → Int
  | [] => next
  | r :: t => if staysP now age size r t then r.off else startF now age size next t
theorem bytesL_cons (r : Rc) (t : List Rc) : bytesL (r :: t) = (recL r).length + bytesL t := by show (recL r ++ packL t).length = _; rw [List.length_append]; rfl
theorem bytesL_drop (rs : List Rc) : ∀ i, bytesL (rs.drop i) ≤ bytesL rs := by
  induction rs with
  | nil => intro i; simp
  | cons r t ih =>
    intro i
    cases i with
    | zero => exact Nat.le_refl _
    | succ i => have := ih i; rw [List.drop_succ_cons, bytesL_cons]; omega
theorem startF_break (now age size next : Int) (rs : List Rc) : ∀ m, size ≠ 0 → size < (bytesL (rs.drop m) : Int) → startF now age size next rs = startF now age size next (rs.drop (m + 1)) := by
  induction rs with
  | nil => intro m _ _; simp
  | cons r t ih =>
    intro m h0 h1
    have hno : ¬ staysP now age size r t := fun h => by
      have h2 := bytesL_drop (r :: t) m
      rcases h.1 with h3 | h3 <;> omega
    have e : startF now age size next (r :: t) = startF now age size next t := by show (if _ then _ else _) = _; rw [if_neg hno]
    cases m with
    | zero => rw [e]; rfl
    | succ m => rw [e, ih m h0 (by simpa using h1)]; rfl
theorem startF_at {now age size next : Int} {rs : List Rc} {m : Nat} {r : Rc} (h : rs[m]? = some r) : rs.drop m = r :: rs.drop (m + 1) := by
  obtain ⟨hm, rfl⟩ := List.getElem?_eq_some_iff.1 h
  exact List.drop_eq_getElem_cons hm

end Go.Proofs.Ytnekiiahgidkoaa.W

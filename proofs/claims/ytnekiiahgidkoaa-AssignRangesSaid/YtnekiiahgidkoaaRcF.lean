/- Package record's reads (a panic that is recovered), Decode. Rows of records; package record's check: which are no batch. -/
import Derived.Test.YtnekiiahgidkoaaRcD
import Derived.Defers
import Derived.Recover
import Derived.Test.YtnekiiahgidkoaaCells
import Derived.Deep.LoopGhost
section
namespace Go.Proofs.Ytnekiiahgidkoaa.W
open Go.RowKit Go.Sort
open Go.Proofs.Ytnekiiahgidkoaa.M Go.Proofs.Ytnekiiahgidkoaa.D
set_option linter.unusedVariables false
set_option linter.unusedSimpArgs false

/-- No record. -/
abbrev rc0 : Rc := ⟨0, 0, ⟨#[]⟩, ⟨#[]⟩, false, 0, 0, 0⟩
end Go.Proofs.Ytnekiiahgidkoaa.W
end
section
namespace Go.Proofs.Ytnekiiahgidkoaa.W
open Go.RowKit Go.Sort
open Go.Proofs.Ytnekiiahgidkoaa.M Go.Proofs.Ytnekiiahgidkoaa.D
set_option linter.unusedVariables false
set_option linter.unusedSimpArgs false

/-- Records as cells, one behind the other. -/
def rcRows (rs : List Rc) : List Value := rs.flatMap rcL
/-- Records that lie in memory. -/
def RcAt (w : World) (va : Option Addr) (rs : List Rc) : Prop := ∀ i r, rs[i]? = some r → ∃ b o, va = some ⟨b, o, none⟩ ∧ b < w.heap.size ∧ ∀ j v, (rcL r)[j]? = some v → w.cell? ⟨b, o + i * 8 + j, none⟩ = some v
theorem RcAt.below {w w' : World} {va : Option Addr} {rs : List Rc} (h : RcAt w va rs) (hb : Below w.heap.size w w') : RcAt w' va rs := fun i r hi => by
  obtain ⟨b, o, h1, h2, h3⟩ := h i r hi
  exact ⟨b, o, h1, Nat.lt_of_lt_of_le h2 hb.size, fun j v hj => (World.cell?_of_block (hb.block b h2)).trans (h3 j v hj)⟩
theorem rcRows_at (rs : List Rc) : ∀ i r, rs[i]? = some r → ∀ j v, (rcL r)[j]? = some v → (rcRows rs)[i * 8 + j]? = some v := by
  induction rs with
  | nil => intro i r h; cases h
  | cons x rs ih =>
    intro i r h j v hj
    have hj8 : j < 8 := (List.getElem?_eq_some_iff.1 hj).1
    cases i with
    | zero =>
      obtain rfl : x = r := by simpa using h
      show (rcL x ++ rcRows rs)[0 * 8 + j]? = some v
      rw [Nat.zero_mul, Nat.zero_add, List.getElem?_append_left (by simpa using hj8)]
      exact hj
    | succ i =>
      show (rcL x ++ rcRows rs)[(i + 1) * 8 + j]? = some v
      have e : (i + 1) * 8 + j = i * 8 + j + 8 := by omega
      rw [e, List.getElem?_append_right (by simp), show i * 8 + j + 8 - (rcL x).length = i * 8 + j from by simp]
      exact ih i r (by simpa using h) j v hj
theorem rcRows_len (rs : List Rc) : (rcRows rs).length = rs.length * 8 := by
  induction rs with
  | nil => rfl
  | cons x rs ih =>
    show (rcL x ++ rcRows rs).length = _
    rw [List.length_append, ih, List.length_cons]
    simp
    omega
theorem rcRows_append (a b : List Rc) : rcRows (a ++ b) = rcRows a ++ rcRows b := by unfold rcRows; rw [List.flatMap_append]
theorem RcAt.get {w : World} {va : Option Addr} {rs : List Rc} (h : RcAt w va rs) {i : Nat} {r : Rc} (hi : rs[i]? = some r) : ∃ b o, va = some ⟨b, o, none⟩ ∧ w.cell? ⟨b, o + i * 8, none⟩ = some (.int .i64 r.off) ∧ w.cell? ⟨b, o + i * 8 + 1, none⟩ = some (.int .i64 r.tick) ∧ w.cell? ⟨b, o + i * 8 + 2, none⟩ = some (.string r.key) ∧ w.cell? ⟨b, o + i * 8 + 3, none⟩ = some (.string r.val) ∧ w.cell? ⟨b, o + i * 8 + 4, none⟩ = some (.bool r.gone) ∧ w.cell? ⟨b, o + i * 8 + 5, none⟩ = some (.int .i64 r.prod) ∧ w.cell? ⟨b, o + i * 8 + 6, none⟩ = some (.int .i64 r.seq) ∧ w.cell? ⟨b, o + i * 8 + 7, none⟩ = some (.int .i64 r.frm) := by
  obtain ⟨b, o, h1, _, h3⟩ := h i r hi
  exact ⟨b, o, h1, h3 0 _ rfl, h3 1 _ rfl, h3 2 _ rfl, h3 3 _ rfl, h3 4 _ rfl, h3 5 _ rfl, h3 6 _ rfl, h3 7 _ rfl⟩

/-- The first one that may not be. -/
theorem first_bad (rs : List Rc) (h : ¬ ∀ r ∈ rs, r.ok) : ∃ (k : Nat) (r : Rc), rs[k]? = some r ∧ ¬ r.ok ∧ ∀ (j : Nat) (s : Rc), j < k → rs[j]? = some s → s.ok := by
  induction rs with
  | nil => exact absurd (by simp) h
  | cons x rs ih =>
    by_cases hx : x.ok
    · obtain ⟨k, r, h1, h2, h3⟩ := ih (fun e => h (fun r hr => by rcases List.mem_cons.1 hr with rfl | hr; exact hx; exact e r hr))
      refine ⟨k + 1, r, by simpa using h1, h2, fun j s hj hs => ?_⟩
      cases j with
      | zero => obtain rfl : x = s := by simpa using hs
                exact hx
      | succ j => exact h3 j s (by omega) (by simpa using hs)
    · exact ⟨0, x, rfl, hx, fun j s hj => by omega⟩
/-- Do offsets rise? -/
def risesP (rs : List Rc) : Prop := ∀ (i : Nat) (a b : Rc), rs[i]? = some a → rs[i + 1]? = some b → a.off < b.off
theorem first_down (rs : List Rc) (n : Nat) (h : ¬ ∀ (i : Nat) (a b : Rc), i < n → rs[i]? = some a → rs[i + 1]? = some b → a.off < b.off) : ∃ (k : Nat) (a b : Rc), k < n ∧ rs[k]? = some a ∧ rs[k + 1]? = some b ∧ b.off ≤ a.off ∧ ∀ (i : Nat) (x y : Rc), i < k → rs[i]? = some x → rs[i + 1]? = some y → x.off < y.off := by
  induction n with
  | zero => exact absurd (fun i a b hi => by omega) h
  | succ n ih =>
    by_cases hn : ∀ (i : Nat) (a b : Rc), i < n → rs[i]? = some a → rs[i + 1]? = some b → a.off < b.off
    · refine Classical.byContradiction fun hc => h fun i a b hi ha hb => ?_
      by_cases e : i < n
      · exact hn i a b e ha hb
      · obtain rfl : i = n := by omega
        exact Classical.byContradiction fun hlt => hc ⟨i, a, b, by omega, ha, hb, by omega, hn⟩
    · obtain ⟨k, a, b, h1, h2⟩ := ih hn
      exact ⟨k, a, b, by omega, h2⟩

end Go.Proofs.Ytnekiiahgidkoaa.W
end

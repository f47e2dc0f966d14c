/- Package record's small calls: isNumber, May. -/
import Derived.Test.YtahljbjgenepaaaProg
import Derived.Test.YtahljbjgenepaaaRecM
import Derived.Test.YtahljbjgenepaaaWorld
import Derived.ProofKit
import Derived.OpenShut
import Derived.Below
import Derived.Outline
import Derived.Lib.Hide
import Derived.WalkSpells
import Derived.WalkLawsBesides
namespace Go.Proofs.Ytahljbjgenepaaa.W
open Go.RowKit
open Go.Proofs.Ytahljbjgenepaaa.M
set_option linter.unusedVariables false
set_option linter.unusedSimpArgs false

/-- A record's cells; a record as a value. -/
abbrev rcL (r : Rc) : List Value := [.int .i64 r.off, .int .i64 r.tick, .string r.key, .string r.val, .bool r.gone, .int .i64 r.prod, .int .i64 r.seq, .int .i64 r.frm]
abbrev rcV (r : Rc) : Value := .agg #[.int .i64 r.off, .int .i64 r.tick, .string r.key, .string r.val, .bool r.gone, .int .i64 r.prod, .int .i64 r.seq, .int .i64 r.frm]

theorem toList_nil (k : ByteArray) : k.toList = [] ↔ k.size = 0 := by
  have hz : k.toList.length = k.size := by rw [ByteArray.toList_eq]; simp
  constructor
  · intro h; rw [h] at hz; simpa using hz.symm
  · intro h; exact List.eq_nil_of_length_eq_zero (by omega)

def isNum (n : Int) : Bool := decide (0 ≤ n ∧ n ≤ 1099511627776)
theorem isNum_any (n : Int) (w : World) :
    Calls Try.prog 57 #[.int .i64 n] w fun e w' => e = .returned (.bool (isNum n)) ∧ w = w' := by
  unfold isNum
  by_cases h0 : 0 ≤ n
  · by_cases h1 : n ≤ 1099511627776
    · rw [decide_eq_true (show 0 ≤ n ∧ n ≤ 1099511627776 from ⟨h0, h1⟩)]
      go_enter Try.func57, Try.ntmps57
      go_wp2_with fail
      go_ret
      exact ⟨rfl, rfl⟩
    · rw [decide_eq_false (show ¬ (0 ≤ n ∧ n ≤ 1099511627776) from fun h => h1 h.2)]
      go_enter Try.func57, Try.ntmps57
      go_wp2_with fail
      go_ret
      exact ⟨rfl, rfl⟩
  · rw [decide_eq_false (show ¬ (0 ≤ n ∧ n ≤ 1099511627776) from fun h => h0 h.1)]
    go_enter Try.func57, Try.ntmps57
    go_wp2_with fail
    go_ret
    exact ⟨rfl, rfl⟩

set_option maxRecDepth 100000 in
set_option maxHeartbeats 4000000 in
theorem may_any (o t : Int) (k v : ByteArray) (g : Bool) (p q f : Int) (w : World) :
    Calls Try.prog 50 #[.agg #[.int .i64 o, .int .i64 t, .string k, .string v, .bool g, .int .i64 p, .int .i64 q, .int .i64 f]] w fun e w' => e = .returned (.bool (Rc.mk o t k v g p q f).may) ∧ Below w.heap.size w w' := by
  have hB := Lib.hid ((Below.refl w.heap.size w).alloc (Nat.le_refl _) (.cells #[.int .i64 o, .int .i64 t, .string k, .string v, .bool g, .int .i64 p, .int .i64 q, .int .i64 f] 40))
  obtain ⟨B, hm⟩ : ∃ B, Hid ((Rc.mk o t k v g p q f).may = B) := ⟨_, Lib.hid rfl⟩
  have bad : ¬ (Rc.mk o t k v g p q f).ok → B = false := fun h => by rw [← hm.out]; exact decide_eq_false h
  have fine : (Rc.mk o t k v g p q f).ok → B = true := fun h => by rw [← hm.out]; exact decide_eq_true h
  rw [hm.out]
  replace bad := Lib.hid bad
  replace fine := Lib.hid fine
  clear hm
  go_enter Try.func50, Try.ntmps50
  by_cases h1 : ¬ (0 ≤ o ∧ o ≤ 1048576)
  · obtain rfl := bad.out (fun h => h1 h.1)
    by_cases h2 : 0 ≤ o
    · have h3 : 1048576 < o := by omega
      clear h1
      go_wp2_with fail
      go_ret
      exact ⟨rfl, hB.out⟩
    · clear h1
      go_wp2_with fail
      go_ret
      exact ⟨rfl, hB.out⟩
  replace h1 := Classical.not_not.1 h1
  obtain ⟨o0, o1⟩ := h1
  go_wp2_with fail
  refine (isNum_any t _).mono ?_
  rintro e w1 ⟨rfl, rfl⟩
  by_cases h2 : ¬ (0 ≤ t ∧ t ≤ 1099511627776)
  · obtain rfl := bad.out (fun h => h2 h.2.1)
    rw [show isNum t = false from decide_eq_false h2]
    clear h2
    go_wp2_with fail
    go_ret
    exact ⟨rfl, hB.out⟩
  replace h2 := Classical.not_not.1 h2
  rw [show isNum t = true from decide_eq_true h2]
  replace h2 := Lib.hid h2
  by_cases h3 : ¬ (k.size ≤ 32)
  · obtain rfl := bad.out (fun h => h3 h.2.2.2.2.2.2.1)
    have h4 : (32 : Int) < (k.size : Int) := by omega
    clear h3
    go_wp2_with fail
    go_ret
    exact ⟨rfl, hB.out⟩
  replace h3 := Classical.not_not.1 h3
  have h4 : (k.size : Int) ≤ 32 := by omega
  by_cases h5 : ¬ (v.size ≤ 200)
  · obtain rfl := bad.out (fun h => h5 h.2.2.2.2.2.2.2.1)
    have h6 : (200 : Int) < (v.size : Int) := by omega
    clear h5
    go_wp2_with fail
    go_ret
    exact ⟨rfl, hB.out⟩
  replace h5 := Classical.not_not.1 h5
  have h6 : (v.size : Int) ≤ 200 := by omega
  go_wp2_with fail
  refine (isNum_any p _).mono ?_
  rintro e w1 ⟨rfl, rfl⟩
  by_cases h7 : ¬ (0 ≤ p ∧ p ≤ 1099511627776)
  · obtain rfl := bad.out (fun h => h7 h.2.2.1)
    rw [show isNum p = false from decide_eq_false h7]
    clear h7
    go_wp2_with fail
    go_ret
    exact ⟨rfl, hB.out⟩
  replace h7 := Classical.not_not.1 h7
  rw [show isNum p = true from decide_eq_true h7]
  replace h7 := Lib.hid h7
  go_wp2_with fail
  refine (isNum_any q _).mono ?_
  rintro e w1 ⟨rfl, rfl⟩
  by_cases h8 : ¬ (0 ≤ q ∧ q ≤ 1099511627776)
  · obtain rfl := bad.out (fun h => h8 h.2.2.2.1)
    rw [show isNum q = false from decide_eq_false h8]
    clear h8
    go_wp2_with fail
    go_ret
    exact ⟨rfl, hB.out⟩
  replace h8 := Classical.not_not.1 h8
  rw [show isNum q = true from decide_eq_true h8]
  replace h8 := Lib.hid h8
  by_cases h9 : ¬ (p = 0 → q = 0)
  · obtain rfl := bad.out (fun h => h9 h.2.2.2.2.2.1)
    have h10 : p = 0 := by omega
    have h11 : ¬ q = 0 := by omega
    clear h9
    subst h10
    go_wp2_with fail
    go_ret
    exact ⟨rfl, hB.out⟩
  replace h9 := Classical.not_not.1 h9
  replace h9 := Lib.hid h9
  rcases (show (p = 0 ∧ q = 0) ∨ ¬ p = 0 from (Classical.em (p = 0)).imp (fun e => ⟨e, h9.out e⟩) id) with ⟨rfl, rfl⟩ | hp0
  all_goals
    go_wp2_with fail
    refine (isNum_any f _).mono ?_
    rintro e w1 ⟨rfl, rfl⟩
    by_cases h10 : ¬ (0 ≤ f ∧ f ≤ 1099511627776)
    · obtain rfl := bad.out (fun h => h10 h.2.2.2.2.1)
      rw [show isNum f = false from decide_eq_false h10]
      clear h10
      go_wp2_with fail
      go_ret
      exact ⟨rfl, hB.out⟩
    replace h10 := Classical.not_not.1 h10
    rw [show isNum f = true from decide_eq_true h10]
    replace h10 := Lib.hid h10
    cases g with
    | false =>
      obtain rfl := fine.out ⟨⟨o0, o1⟩, h2.out, h7.out, h8.out, h10.out, (by first | exact h9.out | exact fun _ => rfl), h3, h5, fun e => by cases e⟩
      go_wp2_with fail
      go_ret
      exact ⟨rfl, hB.out⟩
    | true =>
      by_cases h11 : k.size = 0
      · obtain rfl := bad.out (fun h => by have := (h.2.2.2.2.2.2.2.2 rfl).1; simp only at this; omega)
        have h12 := (toList_nil k).2 h11
        go_wp2_with fail
        go_ret
        exact ⟨rfl, hB.out⟩
      · have h12 : ¬ k.toList = [] := fun h => h11 ((toList_nil k).1 h)
        by_cases h13 : v.size = 0
        · obtain rfl := fine.out ⟨⟨o0, o1⟩, h2.out, h7.out, h8.out, h10.out, (by first | exact h9.out | exact fun _ => rfl), h3, h5, fun e => ⟨by simp only; omega, h13⟩⟩
          have h14 := (toList_nil v).2 h13
          go_wp2_with fail
          go_ret
          exact ⟨by simp [h12, h14], hB.out⟩
        · obtain rfl := bad.out (fun h => h13 (h.2.2.2.2.2.2.2.2 rfl).2)
          have h14 : ¬ v.toList = [] := fun h => h13 ((toList_nil v).1 h)
          go_wp2_with fail
          go_ret
          exact ⟨by simp [h12, h14], hB.out⟩
end Go.Proofs.Ytahljbjgenepaaa.W

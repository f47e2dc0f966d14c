/- A region that draws its order, whose operations but the last ones only read: walked once, in the order of the text; nothing of the program. -/
import Derived.WalkKit
import Derived.StillTail
import Derived.BigQuiet
import Derived.Lib.Hide
namespace Go.Proofs.YtgogackkeodciabGreatDoor.Z
open Go.RowKit
set_option linter.unusedVariables false

theorem still_of_quiet {P : Program} {ops : Array Oper} {w : World} {Q : Go.Act → Prop} : ∀ (l : List Oper) (a : Go.Act), wpQuiet P ops (fun x => x = w) Q l a → wpStill P ops w Q l a
  | [], a, h => h
  | o :: rest, a, h => by
    simp only [wpQuiet, wpStill] at h ⊢
    split
    · rename_i hw
      rw [if_pos hw] at h
      obtain ⟨v, h1, h2⟩ := h
      have h3 := h1 w rfl
      unfold Oper.quietAt at h3
      unfold Oper.still
      have h4 := still_of_quiet rest _ h2
      revert h3
      generalize (execOp a.eval o).run P w = r
      intro h3
      match r, h3 with
      | .ok (.value u) w', ⟨e1, e2⟩ => subst e2; exact ⟨e1, h4⟩
      | .ok .skip w', ⟨e1, e2⟩ => subst e2; exact ⟨e1, h4⟩
      | .ok (.enter f args) w', ⟨e1, e2⟩ => exact ⟨e1, v, e2, h4⟩
    · rename_i hw
      rw [if_neg hw] at h
      exact still_of_quiet rest _ h
theorem quiet_tail {P : Program} {id : Nat} {Q : Exit → Go.Act → World → Prop} {a : Go.Act} {w : World} {l : List Oper} (n : Nat) (V : World) (hm : P.follows .mixedOrders = true) (hB : Region.lexTailB .any l.toArray n = true) (hV : V = w.drew)
    (h : wpQuiet P l.toArray (fun x => x = V) (fun a' => wpList P l.toArray Q (l.drop n) a' V) (l.take n) a) : (Code.region id l.toArray true).wp P Q a w := by
  subst hV
  exact wp_region_still_tail n hm hB (still_of_quiet _ _ h)
end Go.Proofs.YtgogackkeodciabGreatDoor.Z

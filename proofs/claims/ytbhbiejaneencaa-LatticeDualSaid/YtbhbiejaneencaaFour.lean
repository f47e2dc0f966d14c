/- The small case that each statement of layer 4 asks. -/
import Derived.Test.YtbhbiejaneencaaProg
import Derived.Test.YtbhbiejaneencaaEnds
namespace Go.Proofs.Ytbhbiejaneencaa.L
open Go.RowKit
set_option linter.unusedVariables false

def fourB : Nat → Nat → Bool := fun a b => a == b || a == 0 || b == 3
def fourW (w : World) : World := ((((w.alloc (.cells #[.bool true, .bool true, .bool true, .bool true] 4)).alloc (.cells #[.bool false, .bool true, .bool false, .bool true] 4)).alloc (.cells #[.bool false, .bool false, .bool true, .bool true] 4)).alloc (.cells #[.bool false, .bool false, .bool false, .bool true] 4)).alloc
  (.cells #[.slice (some ⟨w.heap.size, 0, none⟩) 4 4, .slice (some ⟨w.heap.size + 1, 0, none⟩) 4 4, .slice (some ⟨w.heap.size + 1 + 1, 0, none⟩) 4 4, .slice (some ⟨w.heap.size + 1 + 1 + 1, 0, none⟩) 4 4] 68)
theorem four_lt {p : Nat → Prop} (h0 : p 0) (h1 : p 1) (h2 : p 2) (h3 : p 3) : ∀ k, k < 4 → p k := fun k hk => by
  rcases (by omega : k = 0 ∨ k = 1 ∨ k = 2 ∨ k = 3) with rfl | rfl | rfl | rfl <;> assumption
theorem heap_new' (w : World) (o : Obj) (n : Nat) (h : n = w.heap.size) : (w.alloc o).heap[n]? = some o := by rw [h]; exact heap_alloc_new w o
theorem heap_old' {w : World} {o q : Obj} {n : Nat} (h : w.heap[n]? = some o) : (w.alloc q).heap[n]? = some o := (Below.heap_alloc w q n (Array.getElem?_eq_some_iff.1 h).1).trans h
theorem four_heap (w : World) :
    (fourW w).heap[w.heap.size]? = some (.cells #[.bool true, .bool true, .bool true, .bool true] 4) ∧ (fourW w).heap[w.heap.size + 1]? = some (.cells #[.bool false, .bool true, .bool false, .bool true] 4) ∧
    (fourW w).heap[w.heap.size + 2]? = some (.cells #[.bool false, .bool false, .bool true, .bool true] 4) ∧ (fourW w).heap[w.heap.size + 3]? = some (.cells #[.bool false, .bool false, .bool false, .bool true] 4) ∧
    (fourW w).heap[w.heap.size + 4]? = some (.cells #[.slice (some ⟨w.heap.size, 0, none⟩) 4 4, .slice (some ⟨w.heap.size + 1, 0, none⟩) 4 4, .slice (some ⟨w.heap.size + 2, 0, none⟩) 4 4, .slice (some ⟨w.heap.size + 3, 0, none⟩) 4 4] 68) := by
  unfold fourW
  refine ⟨heap_old' (heap_old' (heap_old' (heap_old' (heap_new' _ _ _ rfl)))), heap_old' (heap_old' (heap_old' (heap_new' _ _ _ (by simp)))), heap_old' (heap_old' (heap_new' _ _ _ (by simp))), heap_old' (heap_new' _ _ _ (by simp)), heap_new' _ _ _ (by simp)⟩
theorem four_tab (w : World) : Tab (fourW w) (some ⟨w.heap.size + 4, 0, none⟩) 4 (fun r => some ⟨w.heap.size + r, 0, none⟩) (fun _ => 4) (fun _ => 4) fourB := by
  obtain ⟨h0, h1, h2, h3, h4⟩ := four_heap w
  refine ⟨by unfold maxLen; omega, four_lt ?_ ?_ ?_ ?_, ?_⟩
  · exact ⟨_, _, rfl, (cell_of_row _ _ 0 _ _ _ h4).trans rfl, by unfold maxLen; omega⟩
  · exact ⟨_, _, rfl, (cell_of_row _ _ 1 _ _ _ h4).trans rfl, by unfold maxLen; omega⟩
  · exact ⟨_, _, rfl, (cell_of_row _ _ 2 _ _ _ h4).trans rfl, by unfold maxLen; omega⟩
  · exact ⟨_, _, rfl, (cell_of_row _ _ 3 _ _ _ h4).trans rfl, by unfold maxLen; omega⟩
  · intro r c hr hc
    refine ⟨w.heap.size + r, 0, rfl, ?_⟩
    have hall : ∀ r, r < 4 → ∀ c, c < 4 → (fourW w).cell? ⟨w.heap.size + r, 0 + c, none⟩ = some (.bool (fourB r c)) := four_lt
      (four_lt ((cell_of_row _ _ 0 _ _ _ h0).trans rfl) ((cell_of_row _ _ 1 _ _ _ h0).trans rfl) ((cell_of_row _ _ 2 _ _ _ h0).trans rfl) ((cell_of_row _ _ 3 _ _ _ h0).trans rfl))
      (four_lt ((cell_of_row _ _ 0 _ _ _ h1).trans rfl) ((cell_of_row _ _ 1 _ _ _ h1).trans rfl) ((cell_of_row _ _ 2 _ _ _ h1).trans rfl) ((cell_of_row _ _ 3 _ _ _ h1).trans rfl))
      (four_lt ((cell_of_row _ _ 0 _ _ _ h2).trans rfl) ((cell_of_row _ _ 1 _ _ _ h2).trans rfl) ((cell_of_row _ _ 2 _ _ _ h2).trans rfl) ((cell_of_row _ _ 3 _ _ _ h2).trans rfl))
      (four_lt ((cell_of_row _ _ 0 _ _ _ h3).trans rfl) ((cell_of_row _ _ 1 _ _ _ h3).trans rfl) ((cell_of_row _ _ 2 _ _ _ h3).trans rfl) ((cell_of_row _ _ 3 _ _ _ h3).trans rfl))
    exact hall r hr c hc
theorem four_below (w : World) : Below w.heap.size w (fourW w) := by
  unfold fourW
  exact (((((Below.refl _ _).alloc (Nat.le_refl _) _).alloc (by simp) _).alloc (by simp; omega) _).alloc (by simp; omega) _).alloc (by simp; omega) _
theorem four_ok : wrongN 4 (fun _ => 4) fourB = 0 := by decide

set_option maxRecDepth 100000 in
theorem four_any (w : World) :
    Calls Try.prog 30 #[] w fun e w' => e = .returned (.bool true) ∧ Below w.heap.size w w' := by
  have hT := four_tab w
  have hB := four_below w
  go_enter Try.func30, Try.ntmps30
  go_wp2_with fail
  refine (new_any (some ⟨w.heap.size + 4, 0, none⟩) 4 4 _ _ _ _ (fourW w) hT).mono ?_
  rintro e w1 (⟨hne, _⟩ | ⟨_, p, rfl, hF, hb1⟩)
  · exact absurd four_ok hne
  replace hb1 := hB.trans (hb1.mono hB.size)
  clear hT hB
  go_wp2_with fail
  refine (join_in p 4 1 2 3 fourB _ hF (by omega) (by omega) (by decide)).mono ?_
  rintro e w2 ⟨rfl, rfl⟩
  go_wp2_with fail
  refine (meet_in p 4 1 2 0 fourB _ hF (by omega) (by omega) (by decide)).mono ?_
  rintro e w2 ⟨rfl, rfl⟩
  go_wp2_with fail
  refine (top_in p 4 fourB _ hF.lat).mono ?_
  rintro e w2 ⟨rfl, hb2⟩
  rw [show endI 4 (turn fourB) = 3 by decide]
  have hF2 := hF.below hb2
  have hB2 := hb1.trans (hb2.mono hb1.size)
  clear hb1 hb2 hF
  go_wp2_with fail
  refine (bottom_in p 4 fourB _ hF2.lat).mono ?_
  rintro e w3 ⟨rfl, hb3⟩
  rw [show endI 4 fourB = 0 by decide]
  have hF3 := hF2.below hb3
  have hB3 := hB2.trans (hb3.mono hB2.size)
  clear hB2 hb3 hF2
  go_wp2_with fail
  refine (flows_in p 4 1 3 fourB _ hF3.lat (by omega) (by omega)).mono ?_
  rintro e w4 ⟨rfl, rfl⟩
  rw [show fourB 1 3 = true by decide]
  go_wp2_with fail
  refine (flows_in p 4 1 2 fourB _ hF3.lat (by omega) (by omega)).mono ?_
  rintro e w4 ⟨rfl, rfl⟩
  rw [show fourB 1 2 = false by decide]
  go_wp2_with fail
  refine (size_any p 4 fourB _ hF3.lat).mono ?_
  rintro e w4 ⟨rfl, rfl⟩
  go_wp2_with fail
  go_ret
  exact ⟨rfl, hB3⟩
end Go.Proofs.Ytbhbiejaneencaa.L

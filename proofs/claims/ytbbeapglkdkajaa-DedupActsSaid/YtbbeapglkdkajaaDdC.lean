/- Package dedup's Copy. -/
import Derived.Test.YtbbeapglkdkajaaDdN
import Derived.Shelf.SlMaps.Clone
namespace Go.Proofs.Ytbbeapglkdkajaa.W
open Go.RowKit
open Go.Proofs.Ytbbeapglkdkajaa.M Go.Proofs.Ytbbeapglkdkajaa.D
set_option linter.unusedVariables false
set_option linter.unusedSimpArgs false

theorem mapsClone_lt : 57 < Try.prog.funcs.size := of_decide_eq_true (by kernel_rfl)
/-- A function without a body: the model's entry stands in for it. -/
theorem mapsClone_at : Try.prog.funcs[57]? = some (Try.prog.funcs[57]'mapsClone_lt) ∧ ((Try.prog.funcs[57]'mapsClone_lt).name == "runtime.NumGoroutine") = false ∧ (Try.prog.funcs[57]'mapsClone_lt).body.isNone = true ∧
    Extern.findNext (Try.prog.funcs[57]'mapsClone_lt) = none ∧ Extern.find (Try.prog.funcs[57]'mapsClone_lt) = some Extern.MapsClone.clone :=
  ⟨Array.getElem?_eq_getElem mapsClone_lt, by kernel_rfl, by kernel_rfl, by kernel_rfl, by kernel_rfl⟩
theorem run_clone (b : Nat) (es : Array MapEntry) (clock : Nat) (w : World) (hb : w.heap[b]? = some (.map es clock)) :
    (callFunc 57 #[.iface 74 (.map (some b))]).run Try.prog w = .ok (.value (.iface 74 (.map (some w.heap.size)))) (w.alloc (.map es clock)) := by
  rw [run_callFunc_extern mapsClone_at.1 mapsClone_at.2.1 mapsClone_at.2.2.1 mapsClone_at.2.2.2.1 mapsClone_at.2.2.2.2, run_maps_clone_sl w 74 hb]
  rfl
set_option maxRecDepth 100000 in
theorem clone_some (b : Nat) (es : Array MapEntry) (clock : Nat) (w : World) (hb : w.heap[b]? = some (.map es clock)) :
    Calls Try.prog 42 #[.map (some b)] w fun e w' => e = .returned (.map (some w.heap.size)) ∧ w' = w.alloc (.map es clock) := by
  have hq := fun W => eql_map_nil (some b) W
  have hc := run_clone b es clock w hb
  have ht := run_typeAssert_map_sl (w.alloc (.map es clock)) 74 20 _ _ (.map (some w.heap.size)) Try.underlying74
  clear hb
  go_enter Try.func42, Try.ntmps42
  go_wp2_with fail
  go_ret
  exact ⟨rfl, rfl⟩
theorem clone_none (w : World) :
    Calls Try.prog 42 #[.map none] w fun e w' => e = .returned (.map none) ∧ w = w' := by
  have hq := fun W => eql_map_nil none W
  go_enter Try.func42, Try.ntmps42
  go_wp2_with fail
  go_ret
  exact ⟨rfl, rfl⟩
set_option maxRecDepth 100000 in
theorem copy_any {B0 : Nat} (tb : Nat) (l : List La) (w : World) (h : Tb B0 w tb l) : Calls Try.prog 24 #[.pointer (some ⟨tb, 0, none⟩)] w fun e w' => ∃ cb, e = .returned (.pointer (some ⟨cb, 0, none⟩)) ∧ Tb w.heap.size w' cb l ∧ Below w.heap.size w w' := by
  obtain ⟨m, h1, h2, h3, h4⟩ := h
  have c0 : w.cell? ⟨tb, 0, none⟩ = some (.map m) := h1.cell 0
  rcases h2 with ⟨rfl, rfl⟩ | ⟨mb, rfl, h2⟩
  · have hB := Lib.hid (grewAlloc (Below.refl w.heap.size w) (.cells #[.map none] 76))
    have hT : Hid (Tb w.heap.size (w.alloc (.cells #[.map none] 76)) w.heap.size []) := Lib.hid ⟨none, Whole.new w _ _, .inl ⟨rfl, rfl⟩, Nat.le_refl _, fun _ e => by cases e⟩
    clear h1 h4
    go_enter Try.func24, Try.ntmps24
    go_wp2_with fail
    refine (clone_none _).mono ?_
    rintro e w1 ⟨rfl, rfl⟩
    go_wp2_with fail
    go_ret
    exact ⟨_, rfl, hT.out, hB.out⟩
  · obtain ⟨es, clock, hb, F, hs, hD⟩ := h2
    have hcl := Lib.hid (clone_some mb es clock w hb)
    have hown : (w.alloc (.map es clock)).ownsMap Try.prog 3 laR w.heap.size l.length (tabD l) := ⟨es, clock, heap_alloc_new _ _, F, hs, hD⟩
    have hB1 := grewAlloc (Below.refl w.heap.size w) (.map es clock)
    have hB := Lib.hid (grewAlloc hB1 (.cells #[.map (some w.heap.size)] 76))
    have hT : Hid (Tb w.heap.size ((w.alloc (.map es clock)).alloc (.cells #[.map (some w.heap.size)] 76)) (w.alloc (.map es clock)).heap.size l) := Lib.hid ⟨some w.heap.size, Whole.new _ _ _, .inr ⟨_, rfl, hown.alloc _⟩, by simp, fun mb e => by cases e; exact Nat.le_refl _⟩
    rw [show (w.alloc (.map es clock)).heap.size = w.heap.size + 1 by simp] at hT
    clear h1 h4 hb F hs hD hown hB1
    go_enter Try.func24, Try.ntmps24
    go_wp2_with fail
    refine hcl.out.mono ?_
    rintro e w1 ⟨rfl, rfl⟩
    go_wp2_with fail
    go_ret
    exact ⟨_, rfl, hT.out, hB.out⟩
end Go.Proofs.Ytbbeapglkdkajaa.W

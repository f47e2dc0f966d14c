/- The small case that each statement of layer 6 asks. -/
import Derived.Test.YtdagbepjhbmlfaaProg
import Derived.Test.YtdagbepjhbmlfaaLayNew
namespace Go.Proofs.Ytdagbepjhbmlfaa.Y
open Go.RowKit
open Go.Proofs.Ytdagbepjhbmlfaa.I
set_option linter.unusedVariables false

theorem stopHerePair {P : Program} {w : World} {ops : Array Oper} {rest : List Oper} {o : Oper} {a : Act} {Q : Exit → Act → World → Prop} (t : TypeId) (x : Operand) (ho : o.op = .load t x) (h : Hid (wpList P ops Q (o :: rest) a w)) : wpList P ops Q (o :: rest) a w := h
def pairZ : Nat → Int := fun k => if k = 0 then 6 else 8
set_option maxHeartbeats 1000000 in
set_option maxRecDepth 100000 in
theorem pair_any (w : World) :
    Calls Try.prog 44 #[] w fun e w' => e = .returned (.bool true) ∧ Below w.heap.size w w' := by
  obtain ⟨W, hW⟩ : ∃ W, Hid (W = w.alloc (.cells #[.int .i64 6, .int .i64 8] 3)) := ⟨_, Lib.hid rfl⟩
  have hbW : Below w.heap.size w W := by rw [hW.out]; exact allocBelow' w _
  have hI : Ints W (some ⟨w.heap.size, 0, none⟩) 2 2 pairZ := by
    have hc : W.cell? ⟨w.heap.size, 0, none⟩ = some (.int .i64 6) ∧ W.cell? ⟨w.heap.size, 1, none⟩ = some (.int .i64 8) := by
      rw [hW.out]
      exact ⟨(Go.Proofs.Ytdagbepjhbmlfaa.D.Whole.new w 3 [.int .i64 6, .int .i64 8]).cell 0, (Go.Proofs.Ytdagbepjhbmlfaa.D.Whole.new w 3 [.int .i64 6, .int .i64 8]).cell 1⟩
    refine ⟨Nat.le_refl _, by decide, fun k hk => ⟨_, _, rfl, ?_⟩, fun k hk => ?_⟩
    · rcases (by omega : k = 0 ∨ k = 1) with rfl | rfl
      · exact hc.1
      · exact hc.2
    · rcases (by omega : k = 0 ∨ k = 1) with rfl | rfl <;> decide
  have hM : May 2 pairZ := ⟨by omega, by omega, fun k hk => by rcases (by omega : k = 0 ∨ k = 1) with rfl | rfl <;> decide⟩
  have hN := Lib.hid (new_may _ _ _ _ W hI hM)
  clear hI hM
  go_enter Try.func44, Try.ntmps44
  go_wp2_with fail
  rw [← hW.out]
  refine hN.out.mono ?_
  rintro e w1 ⟨rfl, hL, hb1⟩
  clear hN hW
  replace hb1 := hbW.trans (hb1.mono hbW.size)
  clear hbW
  obtain ⟨p, hp⟩ : ∃ p, Hid (W.heap.size = p) := ⟨_, Lib.hid rfl⟩
  rw [hp.out] at hL ⊢
  clear hp
  go_wp2_with fail
  refine (extent_in p 2 _ _ 0 hL (by omega)).mono ?_
  rintro e w2 ⟨rfl, hb2⟩
  rw [show beg (fun k => (pairZ k).toNat) 0 = 0 by decide, show 2 + 16 * (pairZ 0).toNat = 98 by decide]
  replace hL := hL.below hb2
  replace hb2 := hb1.trans (hb2.mono hb1.size)
  clear hb1
  obtain ⟨W3, hW3⟩ : ∃ W, Hid (W = w2.alloc (.cells #[.int .i64 0, .int .i64 98] 96)) := ⟨_, Lib.hid rfl⟩
  have hb3 : Below w2.heap.size w2 W3 := by rw [hW3.out]; exact allocBelow' w2 _
  have a0 : W3.cell? ⟨w2.heap.size, 0, none⟩ = some (.int .i64 0) := by rw [hW3.out]; exact (Go.Proofs.Ytdagbepjhbmlfaa.D.Whole.new w2 96 [.int .i64 0, .int .i64 98]).cell 0
  have a1 : W3.cell? ⟨w2.heap.size, 1, none⟩ = some (.int .i64 98) := by rw [hW3.out]; exact (Go.Proofs.Ytdagbepjhbmlfaa.D.Whole.new w2 96 [.int .i64 0, .int .i64 98]).cell 1
  replace hL := hL.below hb3
  replace hb3 := hb2.trans (hb3.mono hb2.size)
  clear hb2
  go_wp2_with fail
  rw [← hW3.out]
  refine (extent_in p 2 _ _ 1 hL (by omega)).mono ?_
  rintro e w4 ⟨rfl, hb4⟩
  rw [show beg (fun k => (pairZ k).toNat) 1 = 98 by decide, show 2 + 16 * (pairZ 1).toNat = 130 by decide]
  clear hW3
  obtain ⟨q, hq⟩ : ∃ q, Hid (w2.heap.size = q) := ⟨_, Lib.hid rfl⟩
  rw [hq.out] at a0 a1 ⊢
  clear hq
  replace a0 := keepCell' hb4 a0
  replace a1 := keepCell' hb4 a1
  replace hL := hL.below hb4
  replace hb4 := hb3.trans (hb4.mono hb3.size)
  clear hb3
  obtain ⟨W5, hW5⟩ : ∃ W, Hid (W = w4.alloc (.cells #[.int .i64 98, .int .i64 130] 96)) := ⟨_, Lib.hid rfl⟩
  have hb5 : Below w4.heap.size w4 W5 := by rw [hW5.out]; exact allocBelow' w4 _
  have b0 : W5.cell? ⟨w4.heap.size, 0, none⟩ = some (.int .i64 98) := by rw [hW5.out]; exact (Go.Proofs.Ytdagbepjhbmlfaa.D.Whole.new w4 96 [.int .i64 98, .int .i64 130]).cell 0
  have b1 : W5.cell? ⟨w4.heap.size, 1, none⟩ = some (.int .i64 130) := by rw [hW5.out]; exact (Go.Proofs.Ytdagbepjhbmlfaa.D.Whole.new w4 96 [.int .i64 98, .int .i64 130]).cell 1
  replace a0 := keepCell' hb5 a0
  replace a1 := keepCell' hb5 a1
  replace hL := hL.below hb5
  replace hb5 := hb4.trans (hb5.mono hb4.size)
  clear hb4
  go_wp2_with (with_reducible refine stopHerePair _ _ rfl ?_)
  rw [← hW5.out]
  clear hW5
  refine Lib.hid ?_
  go_wp2_with fail
  refine (sectors_any p 2 _ _ hL).mono ?_
  rintro e w6 ⟨rfl, hb6⟩
  rw [show beg (fun k => (pairZ k).toNat) 2 = 228 by decide]
  replace hL := hL.below hb6
  replace hb6 := hb5.trans (hb6.mono hb5.size)
  clear hb5
  go_wp2_with fail
  refine (labels_any p 2 _ _ hL).mono ?_
  rintro e w7 ⟨rfl, rfl⟩
  go_wp2_with fail
  go_ret
  exact ⟨rfl, hb6⟩
end Go.Proofs.Ytdagbepjhbmlfaa.Y

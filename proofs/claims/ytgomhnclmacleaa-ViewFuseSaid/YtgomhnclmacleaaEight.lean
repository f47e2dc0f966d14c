/- The small case that each law of layer 7 asks. -/
import Derived.Test.YtgomhnclmacleaaProg
import Derived.Test.YtgomhnclmacleaaViewD
import Derived.Test.YtgomhnclmacleaaActs7
namespace Go.Proofs.Ytgomhnclmacleaa.D
open Go.RowKit
open Go.Proofs.Ytgomhnclmacleaa.Z
set_option linter.unusedVariables false

theorem fill_x7 (w : World) : Calls Try.prog 66 #[.int .u8 120] w fun e w' => e = .returned (.string ⟨(fillL 120).toArray⟩) ∧ Below w.heap.size w w' := fill7 120 w
theorem fill_y7 (w : World) : Calls Try.prog 66 #[.int .u8 121] w fun e w' => e = .returned (.string ⟨(fillL 121).toArray⟩) ∧ Below w.heap.size w w' := fill7 121 w
theorem zeros16 : (zeros 16)[8]? = some (List.replicate 64 0) := by decide
/-- What a call may write: what was not there in world w. -/
def Since (w : World) (k : Nat) : Prop := w.heap.size ≤ k

set_option maxRecDepth 100000 in
set_option maxHeartbeats 4000000 in
theorem eight_any (w : World) : Calls Try.prog 27 #[] w fun e w' => e = .returned (.bool true) ∧ Below w.heap.size w w' := by
  obtain ⟨X, hX⟩ : ∃ X : ByteArray, Hid (⟨(fillL 120).toArray⟩ = X) := ⟨_, Lib.hid rfl⟩
  obtain ⟨Y, hY⟩ : ∃ Y : ByteArray, Hid (⟨(fillL 121).toArray⟩ = Y) := ⟨_, Lib.hid rfl⟩
  have hXz : X.size = 64 := by rw [← hX.out]; rfl
  have hYz : Y.size = 64 := by rw [← hY.out]; rfl
  go_enter Try.func27, Try.ntmps27
  go_wp2_with fail
  refine (new_in 16 _ (by decide) (by decide)).mono ?_
  rintro e w1 ⟨rfl, hd1, hb1⟩
  obtain ⟨D0, hD0⟩ : ∃ D, Hid (w.heap.size + 1 = D) := ⟨_, Lib.hid rfl⟩
  obtain ⟨G0, hG0⟩ : ∃ D, Hid (w.heap.size = D) := ⟨_, Lib.hid rfl⟩
  rw [hD0.out] at hd1 ⊢
  rw [show Dk w1 D0 w.heap.size (.slice none 0 0) (zeros 16) [] = Dk w1 D0 G0 (.slice none 0 0) (zeros 16) [] from by rw [hG0.out]] at hd1
  have hl16 : (zeros 16).length = 16 := by simp [zeros]
  have hz8 := Lib.hid zeros16
  generalize zeros 16 = lie at hd1 hl16 hz8
  go_wp2_with fail
  refine (vnew_in (from_ := 8) (n := 4) _ hd1 (by decide) (by omega)).mono ?_
  rintro e w2 ⟨rfl, hv2, hb2⟩
  obtain ⟨vb, hvb⟩ : ∃ D, Hid (w1.heap.size = D) := ⟨_, Lib.hid rfl⟩
  have hs1 := hb1.size
  have k2 : Hid (Kept (Since w) w w2) := Lib.hid (Kept.of_below (hb1.trans (hb2.mono hs1)))
  have hmine : ∀ k, mine D0 G0 (.slice none 0 0) k → Since w k := fun k h => by
    have e1 := hD0.out
    have e2 := hG0.out
    rcases h with h | h | h
    · show w.heap.size ≤ k; omega
    · show w.heap.size ≤ k; omega
    · cases h
  have hvs : Since w vb := by show w.heap.size ≤ vb; have := hvb.out; omega
  rw [hvb.out] at hv2 ⊢
  clear hd1 hb1 hb2 hvb hs1
  go_wp2_with fail
  refine (fill_x7 _).mono ?_
  rintro e w3 ⟨rfl, hb3⟩
  rw [hX.out]
  have hv3 := hv2.below hb3
  replace k2 := Lib.hid (k2.out.trans (Kept.of_below hb3))
  clear hv2 hb3
  go_wp2_with fail
  refine (vwrite_in 0 X hv3 (by decide) hXz (by decide) (by decide) (by decide) (by decide) (by decide) (by decide)).mono ?_
  rintro e w4 ⟨rfl, v4, hv4, ho4, hk4⟩
  rw [show X.data.toList = fillL 120 by rw [← hX.out]] at hv4
  have hmine4 : ∀ k, mine D0 G0 v4 k → Since w k := fun k h => by
    rcases h with h | h | h
    · exact hmine k (.inl h)
    · exact hmine k (.inr (.inl h))
    · rcases ho4 k h with h2 | h2
      · exact hmine k (.inr (.inr h2))
      · exact Nat.le_trans k2.out.size h2
  replace k2 := Lib.hid (k2.out.trans (hk4.mono (own' := Since w) (fun k _ h => by rcases h with h | h; rw [h]; exact hvs; exact hmine k h)))
  clear hmine ho4 hk4 hv3
  go_wp2_with fail
  refine (read_in _ _ _ _ _ _ 8 (List.replicate 64 0) hv4.disk hz8.out (by decide)).mono ?_
  rintro e w5 ⟨rfl, rfl⟩
  rw [show (⟨(rd ([] ++ [(8 + 0, fillL 120)]) 8 (List.replicate 64 0)).toArray⟩ : ByteArray) = X from hX.out]
  go_wp2_with fail
  refine (vfuse_any 1 hv4).mono ?_
  rintro e w6 ⟨rfl, hv6, hk6⟩
  replace k2 := Lib.hid (k2.out.trans (hk6.mono (own' := Since w) (fun k _ h => by rw [h]; exact hvs)))
  clear hv4 hk6
  go_wp2_with fail
  refine (fill_y7 _).mono ?_
  rintro e w7 ⟨rfl, hb7⟩
  rw [hY.out]
  have hv7 := hv6.below hb7
  replace k2 := Lib.hid (k2.out.trans (Kept.of_below hb7))
  clear hv6 hb7
  go_wp2_with fail
  refine (vwrite_in 3 Y hv7 (by decide) hYz (by decide) (by decide) (by decide) (by decide) (by decide) (by decide)).mono ?_
  rintro e w8 ⟨rfl, v8, hv8, ho8, hk8⟩
  rw [show Y.data.toList = fillL 121 by rw [← hY.out]] at hv8
  replace k2 := Lib.hid (k2.out.trans (hk8.mono (own' := Since w) (fun k _ h => by rcases h with h | h; rw [h]; exact hvs; exact hmine4 k h)))
  clear hmine4 ho8 hk8 hv7
  go_wp2_with fail
  refine (vflush_power hv8 (.inr (by decide))).mono ?_
  rintro e w9 ⟨rfl, hv9, hk9⟩
  replace k2 := Lib.hid (k2.out.trans (hk9.mono (own' := Since w) (fun k _ h => by rw [h]; exact hvs)))
  clear hv8 hk9
  go_wp2_with fail
  refine (vdead_any hv9).mono ?_
  rintro e w10 ⟨rfl, rfl⟩
  go_wp2_with fail
  refine (fill_x7 _).mono ?_
  rintro e w11 ⟨rfl, hb11⟩
  rw [hX.out]
  have hv11 := hv9.below hb11
  replace k2 := Lib.hid (k2.out.trans (Kept.of_below hb11))
  clear hv9 hb11
  go_wp2_with fail
  refine (vsteps_any hv11).mono ?_
  rintro e w12 ⟨rfl, rfl⟩
  go_wp2_with fail
  refine (vwaiting_any hv11 (by decide)).mono ?_
  rintro e w12 ⟨rfl, hb12⟩
  rw [show (([] ++ [(8 + 0, fillL 120)] ++ [(8 + 3, fillL 121)] : List (Nat × List UInt8)).filter (spanB 8 4)).length = 2 from by decide]
  have hv12 := hv11.below hb12
  replace k2 := Lib.hid (k2.out.trans (Kept.of_below hb12))
  clear hv11 hb12
  go_wp2_with fail
  refine (vsize_any hv12).mono ?_
  rintro e w13 ⟨rfl, rfl⟩
  go_wp2_with fail
  go_ret
  exact ⟨rfl, k2.out.below (Nat.le_refl _) (fun _ h => h)⟩
end Go.Proofs.Ytgomhnclmacleaa.D

/- The walk of the small case that each law of layer 8 asks. -/
import Derived.Test.YtgomhnclmacleaaProg
import Derived.Test.YtgomhnclmacleaaFrDec
import Derived.Test.YtgomhnclmacleaaFrameN
namespace Go.Proofs.Ytgomhnclmacleaa.W
open Go.RowKit
open Go.Proofs.Ytgomhnclmacleaa.M
open Go.Proofs.Ytgomhnclmacleaa.D
open Go.Proofs.Ytgomhnclmacleaa.Z
set_option linter.unusedVariables false

/-- How many pieces so many bytes have. -/
def manyI (n : Int) : Int := if n < 1 then 0 else (n - 1) / 52 + 1
theorem many_any (n : Int) (w : World) (h0 : -9223372036854775808 ≤ n) (h1 : n ≤ 9223372036854775807) :
    Calls Try.prog 48 #[.int .i64 n] w fun e w' => e = .returned (.int .i64 (manyI n)) ∧ w = w' := by
  by_cases h : n < 1
  · have hm := Lib.hid (show manyI n = 0 from by unfold manyI; rw [if_pos h])
    go_enter Try.func48, Try.ntmps48
    go_wp2
    go_ret
    exact ⟨ret_int hm.out.symm, rfl⟩
  · have hm := Lib.hid (show manyI n = (n - 1) / 52 + 1 from by unfold manyI; rw [if_neg h])
    go_enter Try.func48, Try.ntmps48
    go_wp2
    go_ret
    exact ⟨ret_int hm.out.symm, rfl⟩

/-- The frame of the small case. -/
def bareS : ByteArray := ⟨#[0, 1, 135, 165, 138, 47, 1]⟩
set_option maxRecDepth 100000 in
theorem bareS_enc : B (encF 7 3 1 (⟨#[]⟩ : ByteArray).data.toList) = bareS := by decide +kernel
set_option maxRecDepth 100000 in
theorem bare_dec1 : decV 7 3 (bareS ++ ⟨#[120]⟩) = .tuple #[.agg #[.int .i64 1, .string ⟨#[]⟩], .int .i64 7, .int .i64 0] := by
  unfold decV
  rw [show decK 7 3 (bareS ++ ⟨#[120]⟩) = 1 from by decide +kernel, show decP 7 3 (bareS ++ ⟨#[120]⟩) = ⟨#[]⟩ from by decide +kernel, show decN 7 3 (bareS ++ ⟨#[120]⟩) = 7 from by decide +kernel, show decWhy 7 3 (bareS ++ ⟨#[120]⟩) = 0 from by decide +kernel]
set_option maxRecDepth 100000 in
theorem bare_dec2 : decV 8 3 bareS = noV 4 := decV_no (by decide +kernel) (by decide)
set_option maxRecDepth 100000 in
theorem bare_dec3 : decV 7 4 bareS = noV 4 := decV_no (by decide +kernel) (by decide)

set_option maxRecDepth 100000 in
set_option maxHeartbeats 4000000 in
theorem bare_any (w : World) :
    Calls Try.prog 40 #[] w fun e w' => e = .returned (.bool true) ∧ Below w.heap.size w w' := by
  have e0 := bareS_enc
  have e1 := bare_dec1
  have e2 := bare_dec2
  have e3 := bare_dec3
  have hz : bareS.size = 7 := by decide
  have x2 : (bareS.extract 0 2).toList = [0, 1] := by decide +kernel
  have x6 : (bareS.extract 6 7).toList = [1] := by decide +kernel
  obtain ⟨S, hS⟩ : ∃ S, Hid (bareS = S) := ⟨_, Lib.hid rfl⟩
  rw [hS.out] at e0 e1 e2 e3 hz x2 x6
  replace e0 := Lib.hid e0
  replace e1 := Lib.hid e1
  replace e2 := Lib.hid e2
  replace e3 := Lib.hid e3
  have hz1 : (S ++ (⟨#[120]⟩ : ByteArray)).size = 8 := by rw [ByteArray.size_append, hz]; rfl
  go_enter Try.func40, Try.ntmps40
  go_wp2_with fail
  refine (encode_yes 7 3 1 ⟨#[]⟩ _ (by decide) (by decide) (by decide) (by decide) (by decide) (by decide)).mono ?_
  rintro e w1 ⟨rfl, hb1⟩
  rw [e0.out]
  go_wp2_with fail
  refine (decode_any 7 3 _ _ (by decide) (by decide) (by omega)).mono ?_
  rintro e w2 ⟨rfl, hb2⟩
  rw [e1.out]
  go_wp2_with fail
  refine (decode_any 8 3 _ _ (by decide) (by decide) (by omega)).mono ?_
  rintro e w3 ⟨rfl, hb3⟩
  rw [e2.out]
  go_wp2_with fail
  refine (decode_any 7 4 _ _ (by decide) (by decide) (by omega)).mono ?_
  rintro e w4 ⟨rfl, hb4⟩
  rw [e3.out]
  have hF := (((Whole.new w2 72 [.int .i64 1, .string ⟨#[]⟩]).below hb3 (by simp)).alloc (.cells #[.int .i64 0, .string ⟨#[]⟩] 72))
  have hF4 := (hF.below hb4 hF.lt).alloc (.cells #[.int .i64 0, .string ⟨#[]⟩] 72)
  have c0 := hF4.cell 0
  have c1 := hF4.cell 1
  simp only [List.getElem?_cons_zero, List.getElem?_cons_succ] at c0 c1
  have g4 := Lib.hid (grew (grewAlloc (grew (grewAlloc (grew hb1 hb2) (.cells #[.int .i64 1, .string ⟨#[]⟩] 72)) hb3) (.cells #[.int .i64 0, .string ⟨#[]⟩] 72)) hb4)
  clear hF hF4 hb1 hb2 hb3 hb4
  go_wp2_with fail
  refine (frSize_any 1 ⟨#[]⟩ _ (by decide)).mono ?_
  rintro e w5 ⟨rfl, hb5⟩
  go_wp2_with fail
  refine (many_any 53 _ (by decide) (by decide)).mono ?_
  rintro e w6 ⟨rfl, rfl⟩
  rw [show manyI 53 = 2 from by decide]
  go_wp2_with fail
  go_ret
  exact ⟨rfl, grew (grewAlloc g4.out _) hb5⟩
end Go.Proofs.Ytgomhnclmacleaa.W

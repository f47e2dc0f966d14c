/- Package offsets: the calls of nil. -/
import Derived.Test.YtgogackkeodciaaOfA
import Derived.LoopN
namespace Go.Proofs.Ytgogackkeodciaa.W
open Go.RowKit Go.Sort
open Go.Proofs.Ytgogackkeodciaa.M Go.Proofs.Ytgogackkeodciaa.D Go.Proofs.Ytgogackkeodciaa.Z
set_option linter.unusedVariables false
set_option linter.unusedSimpArgs false

set_option maxRecDepth 100000 in
set_option maxHeartbeats 4000000 in
theorem commit24_nil (g t : ByteArray) (p n : Int) (w : World) :
    Calls Try.prog 20 #[.pointer none, .agg #[.string g, .string t, .int .i64 p], .int .i64 n] w fun e w' => e = .returned (.tuple #[.agg #[.int .i64 0, .string ⟨#[]⟩], .int .i64 7]) ∧ Below w.heap.size w w' := by
  obtain ⟨V, hV⟩ : ∃ V, Hid (V = (w.alloc (.cells #[.string g, .string t, .int .i64 p] 26)).alloc (.cells #[.int .i64 0, .string ⟨#[]⟩] 33)) := ⟨_, Lib.hid rfl⟩
  have hB : Below w.heap.size w V := by rw [hV.out]; exact grewAlloc (grewAlloc (Below.refl _ _) _) _
  have hR : Whole V (w.heap.size + 1) 33 [.int .i64 0, .string ⟨#[]⟩] := by
    rw [hV.out]
    have := Whole.new (w.alloc (.cells #[.string g, .string t, .int .i64 p] 26)) 33 [.int .i64 0, .string ⟨#[]⟩]
    simpa using this
  obtain ⟨fb, hfb⟩ : ∃ q, Hid (w.heap.size + 1 = q) := ⟨_, Lib.hid rfl⟩
  rw [hfb.out] at hR
  have hfw : w.heap.size ≤ fb := by have := hfb.out; omega
  have r0 : V.cell? ⟨fb, 0, none⟩ = some (.int .i64 0) := hR.cell 0
  have r1 : V.cell? ⟨fb, 1, none⟩ = some (.string ⟨#[]⟩) := hR.cell 1
  have f0 := hR.frozen 0
  have f1 := hR.frozen 1
  have hend : Hid (Whole (V.setCells fb 0 [.int .i64 0, .string ⟨#[]⟩]) fb 33 [.int .i64 0, .string ⟨#[]⟩]) := Lib.hid (whole_all hR rfl)
  have hB9 : Hid (Below w.heap.size w (V.setCells fb 0 [.int .i64 0, .string ⟨#[]⟩])) := Lib.hid (below_store hB hfw (Nat.le_refl _) 0 [.int .i64 0, .string ⟨#[]⟩])
  clear hR hB
  go_enter Try.func20, Try.ntmps20
  go_upto_region 1 with fail
  rw [← show V = _ from hV.out, hfb.out]
  clear hV hfb
  go_wp2_with fail
  exact bodyPost_ret (result_cell_tmp Try.results20 rfl rfl hend.out.range Try.underlying33 rfl sizeFr24) rfl ⟨rfl, hB9.out⟩
set_option maxRecDepth 100000 in
set_option maxHeartbeats 4000000 in
theorem clear24_nil (g : ByteArray) (w : World) :
    Calls Try.prog 21 #[.pointer none, .string g] w fun e w' => e = .returned (.tuple #[.agg #[.int .i64 0, .string ⟨#[]⟩], .int .i64 7]) ∧ Below w.heap.size w w' := by
  obtain ⟨V, hV⟩ : ∃ V, Hid (V = w.alloc (.cells #[.int .i64 0, .string ⟨#[]⟩] 33)) := ⟨_, Lib.hid rfl⟩
  have hB : Below w.heap.size w V := by rw [hV.out]; exact grewAlloc (Below.refl _ _) _
  have hR : Whole V w.heap.size 33 [.int .i64 0, .string ⟨#[]⟩] := by rw [hV.out]; exact Whole.new w _ _
  obtain ⟨fb, hfb⟩ : ∃ q, Hid (w.heap.size = q) := ⟨_, Lib.hid rfl⟩
  rw [hfb.out] at hR
  have hfw : w.heap.size ≤ fb := by have := hfb.out; omega
  have r0 : V.cell? ⟨fb, 0, none⟩ = some (.int .i64 0) := hR.cell 0
  have r1 : V.cell? ⟨fb, 1, none⟩ = some (.string ⟨#[]⟩) := hR.cell 1
  have f0 := hR.frozen 0
  have f1 := hR.frozen 1
  have hend : Hid (Whole (V.setCells fb 0 [.int .i64 0, .string ⟨#[]⟩]) fb 33 [.int .i64 0, .string ⟨#[]⟩]) := Lib.hid (whole_all hR rfl)
  have hB9 : Hid (Below w.heap.size w (V.setCells fb 0 [.int .i64 0, .string ⟨#[]⟩])) := Lib.hid (below_store hB hfw (Nat.le_refl _) 0 [.int .i64 0, .string ⟨#[]⟩])
  clear hR hB
  go_enter Try.func21, Try.ntmps21
  go_upto_region 1 with fail
  rw [← show V = _ from hV.out, hfb.out]
  clear hV hfb
  go_wp2_with fail
  exact bodyPost_ret (result_cell_tmp Try.results21 rfl rfl hend.out.range Try.underlying33 rfl sizeFr24) rfl ⟨rfl, hB9.out⟩
theorem get24_nil (g t : ByteArray) (p : Int) (w : World) : Calls Try.prog 15 #[.pointer none, .agg #[.string g, .string t, .int .i64 p]] w fun e w' => e = .returned (.tuple #[.int .i64 0, .int .i64 7]) ∧ Below w.heap.size w w' := by
  have hb := Lib.hid (grewAlloc (Below.refl w.heap.size w) (.cells #[.string g, .string t, .int .i64 p] 26))
  go_enter Try.func15, Try.ntmps15
  go_wp2_with fail
  go_ret2
  exact ⟨rfl, hb.out⟩
theorem apply24_nil (kd : Int) (p : ByteArray) (w : World) : Calls Try.prog 13 #[.pointer none, .agg #[.int .i64 kd, .string p]] w fun e w' => e = .returned (.int .i64 7) ∧ Below w.heap.size w w' := by
  have hb := Lib.hid (grewAlloc (Below.refl w.heap.size w) (.cells #[.int .i64 kd, .string p] 33))
  go_enter Try.func13, Try.ntmps13
  go_wp2_with fail
  go_ret
  exact ⟨rfl, hb.out⟩
theorem keys24_nil (w : World) : Calls Try.prog 19 #[.pointer none] w fun e w' => e = .returned (.slice none 0 0) ∧ w = w' := by
  go_enter Try.func19, Try.ntmps19
  go_wp2_with fail
  go_ret
  exact ⟨rfl, rfl⟩
theorem groups24_nil (w : World) : Calls Try.prog 22 #[.pointer none] w fun e w' => e = .returned (.int .i64 0) ∧ w = w' := by
  go_enter Try.func22, Try.ntmps22
  go_wp2_with fail
  go_ret
  exact ⟨rfl, rfl⟩
set_option maxRecDepth 100000 in
set_option maxHeartbeats 4000000 in
theorem snap24_nil (w : World) : Calls Try.prog 18 #[.pointer none] w fun e w' => e = .returned (.slice none 0 0) ∧ w = w' := by
  go_enter Try.func18, Try.ntmps18
  go_wp2_with fail
  refine (keys24_nil _).mono ?_
  rintro _ w1 ⟨rfl, rfl⟩
  go_wp2_with fail
  refine wp_loop_rounds 1 ?_
  rw [rounds_succ]
  go_wp2_with fail
  go_ret
  exact ⟨rfl, rfl⟩
end Go.Proofs.Ytgogackkeodciaa.W

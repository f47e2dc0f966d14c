/- Package seglog's calls of a nil log. -/
import Derived.Test.YtlgoepbfdldgnaaGreatDoorLgG
namespace Go.Proofs.YtlgoepbfdldgnaaGreatDoor.W
open Go.RowKit Go.Sort
open Go.Proofs.YtlgoepbfdldgnaaGreatDoor.M Go.Proofs.YtlgoepbfdldgnaaGreatDoor.D Go.Proofs.YtlgoepbfdldgnaaGreatDoor.Z
set_option linter.unusedVariables false

theorem lappend_nil (k : Int) (p : ByteArray) (w : World) : Calls Tryz.prog 27 #[.pointer none, .agg #[.int .i64 k, .string p]] w fun e w' => e = .returned (.tuple #[.int .i64 0, .int .i64 7]) ∧ Below w.heap.size w w' := by
  have hB := Lib.hid (allocBelow w (.cells #[.int .i64 k, .string p] 43))
  go_enter Tryz.func27, Tryz.ntmps27
  go_wp2_with fail
  go_ret2
  exact ⟨rfl, hB.out⟩
theorem lnext_nil (w : World) : Calls Tryz.prog 21 #[.pointer none] w fun e w' => e = .returned (.int .i64 0) ∧ w = w' := by
  go_enter Tryz.func21, Tryz.ntmps21
  go_wp2_with fail
  go_ret
  exact ⟨rfl, rfl⟩
theorem lid_nil (w : World) : Calls Tryz.prog 35 #[.pointer none] w fun e w' => e = .returned (.int .i64 0) ∧ w = w' := by
  go_enter Tryz.func35, Tryz.ntmps35
  go_wp2_with fail
  go_ret
  exact ⟨rfl, rfl⟩
theorem lgen_nil (w : World) : Calls Tryz.prog 36 #[.pointer none] w fun e w' => e = .returned (.int .u32 0) ∧ w = w' := by
  go_enter Tryz.func36, Tryz.ntmps36
  go_wp2_with fail
  go_ret
  exact ⟨rfl, rfl⟩
theorem lsegs_nil (w : World) : Calls Tryz.prog 18 #[.pointer none] w fun e w' => e = .returned (.slice none 0 0) ∧ w = w' := by
  go_enter Tryz.func18, Tryz.ntmps18
  go_wp2_with fail
  go_ret
  exact ⟨rfl, rfl⟩
theorem lbase_nil (w : World) : Calls Tryz.prog 15 #[.pointer none] w fun e w' => e = .returned (.int .i64 0) ∧ w = w' := by
  have hn := Lib.hid lnext_nil
  go_enter Tryz.func15, Tryz.ntmps15
  go_wp2_with fail
  refine (hn.out _).mono ?_
  rintro _ w1 ⟨rfl, rfl⟩
  go_wp2_with fail
  go_ret
  exact ⟨rfl, rfl⟩
theorem lhas_nil (n : Int) (w : World) : Calls Tryz.prog 53 #[.pointer none, .int .i64 n] w fun e w' => e = .returned (.bool false) ∧ w = w' := by
  have hn := Lib.hid lnext_nil
  have hb := Lib.hid lbase_nil
  by_cases h : 0 ≤ n
  · have h2 : ¬ n < 0 := by omega
    go_enter Tryz.func53, Tryz.ntmps53
    go_wp2_with fail
    refine (hb.out _).mono ?_
    rintro _ w1 ⟨rfl, rfl⟩
    go_wp2_with fail
    refine (hn.out _).mono ?_
    rintro _ w2 ⟨rfl, rfl⟩
    have hd : decide (n < 0) = false := by simp [h]
    go_wp2_with fail
    go_ret
    exact ⟨by first | rfl | (simp [h]), rfl⟩
  · go_enter Tryz.func53, Tryz.ntmps53
    go_wp2_with fail
    refine (hb.out _).mono ?_
    rintro _ w1 ⟨rfl, rfl⟩
    go_wp2_with fail
    go_ret
    exact ⟨rfl, rfl⟩
theorem lfrom_nil (n most : Int) (w : World) : Calls Tryz.prog 23 #[.pointer none, .int .i64 n, .int .i64 most] w fun e w' => e = .returned (.slice none 0 0) ∧ w = w' := by
  have hh := Lib.hid lhas_nil
  go_enter Tryz.func23, Tryz.ntmps23
  go_wp2_with fail
  refine (hh.out _ _).mono ?_
  rintro _ w1 ⟨rfl, rfl⟩
  go_wp2_with fail
  go_ret
  exact ⟨rfl, rfl⟩
theorem lread_nil (n : Int) (w : World) : Calls Tryz.prog 31 #[.pointer none, .int .i64 n] w fun e w' => e = .returned (.tuple #[.agg #[.int .i64 0, .string ⟨#[]⟩], .int .i64 7]) ∧ Below w.heap.size w w' := by
  have hB := allocBelow w (.cells #[.int .i64 0, .string ⟨#[]⟩] 43)
  have hX := Whole.new w 43 [.int .i64 0, .string ⟨#[]⟩]
  go_enter Tryz.func31, Tryz.ntmps31
  go_wp2_with fail
  obtain ⟨w4, hw4⟩ : ∃ w4, w.alloc (.cells #[.int .i64 0, .string ⟨#[]⟩] 43) = w4 := ⟨_, rfl⟩
  have y0 : w4.cell? ⟨w.heap.size, 0, none⟩ = some (.int .i64 0) := by rw [← hw4]; exact hX.cell 0
  have y1 : w4.cell? ⟨w.heap.size, 1, none⟩ = some (.string ⟨#[]⟩) := by rw [← hw4]; exact hX.cell 1
  have hB4 : Below w.heap.size w w4 := by rw [← hw4]; exact hB
  rw [hw4]
  exact bodyPost_ret (v := .tuple #[.agg #[.int .i64 0, .string ⟨#[]⟩], .int .i64 7]) (by simp [results, Tryz.results31, go_sem, y0, y1]) rfl ⟨rfl, hB4⟩
theorem lnew_nil (n g b : Int) (w : World) : Calls Tryz.prog 14 #[.pointer none, .pointer none, .int .i64 n, .int .u32 g, .int .i64 b] w fun e w' => e = .returned (.tuple #[.pointer none, .int .i64 7]) ∧ w = w' := by
  go_enter Tryz.func14, Tryz.ntmps14
  go_wp2_with fail
  go_ret2
  exact ⟨rfl, rfl⟩
theorem ladopt_nil (w : World) : Calls Tryz.prog 16 #[.pointer none, .slice none 0 0] w fun e w' => e = .returned (.int .i64 7) ∧ w = w' := by
  go_enter Tryz.func16, Tryz.ntmps16
  go_wp2_with fail
  go_ret
  exact ⟨rfl, rfl⟩
theorem ldrop_nil (n : Int) (w : World) : Calls Tryz.prog 32 #[.pointer none, .int .i64 n] w fun e w' => e = .returned (.int .i64 7) ∧ w = w' := by
  go_enter Tryz.func32, Tryz.ntmps32
  go_wp2_with fail
  go_ret
  exact ⟨rfl, rfl⟩
theorem lfree_nil (w : World) : Calls Tryz.prog 33 #[.pointer none] w fun e w' => e = .returned (.int .i64 7) ∧ w = w' := by
  go_enter Tryz.func33, Tryz.ntmps33
  go_wp2_with fail
  go_ret
  exact ⟨rfl, rfl⟩
theorem lfits_nil (k : Int) (p : ByteArray) (w : World) : Calls Tryz.prog 34 #[.pointer none, .agg #[.int .i64 k, .string p]] w fun e w' => e = .returned (.bool false) ∧ Below w.heap.size w w' := by
  have hB := Lib.hid (allocBelow w (.cells #[.int .i64 k, .string p] 43))
  go_enter Tryz.func34, Tryz.ntmps34
  go_wp2_with fail
  go_ret
  exact ⟨rfl, hB.out⟩
end Go.Proofs.YtlgoepbfdldgnaaGreatDoor.W

/- Package catalog: the calls of nil. -/
import Derived.Test.YtbbhnbdekblghaaGreatCgR
namespace Go.Proofs.YtbbhnbdekblghaaGreat.W
open Go.RowKit Go.Sort
open Go.Proofs.YtbbhnbdekblghaaGreat.M Go.Proofs.YtbbhnbdekblghaaGreat.D Go.Proofs.YtbbhnbdekblghaaGreat.Z
set_option linter.unusedVariables false
set_option linter.unusedSimpArgs false

theorem sizeSpN : (Tryz.prog.info? 31).map (·.size) = some 5 := by kernel_rfl
theorem create23_nil (nm : ByteArray) (pa ag sz : Int) (cp : Bool) (w : World) :
    Calls Tryz.prog 19 #[.pointer none, .agg #[.string nm, .int .i64 pa, .int .i64 ag, .int .i64 sz, .bool cp]] w fun e w' => e = .returned (.tuple #[.agg #[.int .i64 0, .string ⟨#[]⟩], .int .i64 7]) ∧ Below w.heap.size w w' := by
  obtain ⟨V, hV⟩ : ∃ V, Hid (V = (w.alloc (.cells #[.string nm, .int .i64 pa, .int .i64 ag, .int .i64 sz, .bool cp] 31)).alloc (.cells #[.int .i64 0, .string ⟨#[]⟩] 37)) := ⟨_, Lib.hid rfl⟩
  have hB : Below w.heap.size w V := by rw [hV.out]; exact grewAlloc (grewAlloc (Below.refl _ _) _) _
  have hR : Whole V (w.heap.size + 1) 37 [.int .i64 0, .string ⟨#[]⟩] := by
    rw [hV.out]
    have := Whole.new (w.alloc (.cells #[.string nm, .int .i64 pa, .int .i64 ag, .int .i64 sz, .bool cp] 31)) 37 [.int .i64 0, .string ⟨#[]⟩]
    simpa using this
  obtain ⟨xb, hxb⟩ : ∃ q, Hid (w.heap.size = q) := ⟨_, Lib.hid rfl⟩
  obtain ⟨rb, hrb⟩ : ∃ q, Hid (w.heap.size + 1 = q) := ⟨_, Lib.hid rfl⟩
  rw [hrb.out] at hR
  have hrw : w.heap.size ≤ rb := by have := hrb.out; omega
  have r0 : V.cell? ⟨rb, 0, none⟩ = some (.int .i64 0) := hR.cell 0
  have f0 := hR.frozen 0
  have r1 : V.cell? ⟨rb, 1, none⟩ = some (.string ⟨#[]⟩) := hR.cell 1
  have f1 := hR.frozen 1
  have hend : Hid (Whole (V.setCells rb 0 [.int .i64 0, .string ⟨#[]⟩]) rb 37 [.int .i64 0, .string ⟨#[]⟩]) := Lib.hid (whole_all hR rfl)
  have hB9 : Hid (Below w.heap.size w (V.setCells rb 0 [.int .i64 0, .string ⟨#[]⟩])) := Lib.hid (below_store hB hrw (Nat.le_refl _) 0 [.int .i64 0, .string ⟨#[]⟩])
  clear hR hB
  go_enter Tryz.func19, Tryz.ntmps19
  go_upto_region 1 with fail
  rw [← show V = _ from hV.out, hrb.out, hxb.out]
  clear hV hxb hrb
  go_wp2_with fail
  exact bodyPost_ret (result_cell_tmp Tryz.results19 rfl rfl hend.out.range Tryz.underlying37 rfl sizeFr23) rfl ⟨rfl, hB9.out⟩
theorem delete23_nil (nm : ByteArray) (w : World) :
    Calls Tryz.prog 20 #[.pointer none, .string nm] w fun e w' => e = .returned (.tuple #[.agg #[.int .i64 0, .string ⟨#[]⟩], .int .i64 7]) ∧ Below w.heap.size w w' := by
  obtain ⟨V, hV⟩ : ∃ V, Hid (V = w.alloc (.cells #[.int .i64 0, .string ⟨#[]⟩] 37)) := ⟨_, Lib.hid rfl⟩
  have hB : Below w.heap.size w V := by rw [hV.out]; exact grewAlloc (Below.refl _ _) _
  have hR : Whole V w.heap.size 37 [.int .i64 0, .string ⟨#[]⟩] := by
    rw [hV.out]
    have := Whole.new w 37 [.int .i64 0, .string ⟨#[]⟩]
    simpa using this
  obtain ⟨xb, hxb⟩ : ∃ q, Hid (w.heap.size = q) := ⟨_, Lib.hid rfl⟩
  obtain ⟨rb, hrb⟩ : ∃ q, Hid (w.heap.size = q) := ⟨_, Lib.hid rfl⟩
  rw [hrb.out] at hR
  have hrw : w.heap.size ≤ rb := by have := hrb.out; omega
  have r0 : V.cell? ⟨rb, 0, none⟩ = some (.int .i64 0) := hR.cell 0
  have f0 := hR.frozen 0
  have r1 : V.cell? ⟨rb, 1, none⟩ = some (.string ⟨#[]⟩) := hR.cell 1
  have f1 := hR.frozen 1
  have hend : Hid (Whole (V.setCells rb 0 [.int .i64 0, .string ⟨#[]⟩]) rb 37 [.int .i64 0, .string ⟨#[]⟩]) := Lib.hid (whole_all hR rfl)
  have hB9 : Hid (Below w.heap.size w (V.setCells rb 0 [.int .i64 0, .string ⟨#[]⟩])) := Lib.hid (below_store hB hrw (Nat.le_refl _) 0 [.int .i64 0, .string ⟨#[]⟩])
  clear hR hB
  go_enter Tryz.func20, Tryz.ntmps20
  go_upto_region 1 with fail
  rw [← show V = _ from hV.out, hrb.out]
  clear hV hxb hrb
  go_wp2_with fail
  exact bodyPost_ret (result_cell_tmp Tryz.results20 rfl rfl hend.out.range Tryz.underlying37 rfl sizeFr23) rfl ⟨rfl, hB9.out⟩
theorem put23_nil (pn : ByteArray) (pp : Int) (g q s nx : Int) (tb : ByteArray) (w : World) :
    Calls Tryz.prog 21 #[.pointer none, .agg #[.string pn, .int .i64 pp], .agg #[.int .i64 g, .int .i64 q, .int .i64 s, .int .i64 nx, .string tb]] w fun e w' => e = .returned (.tuple #[.agg #[.int .i64 0, .string ⟨#[]⟩], .int .i64 7]) ∧ Below w.heap.size w w' := by
  obtain ⟨V, hV⟩ : ∃ V, Hid (V = ((w.alloc (.cells #[.string pn, .int .i64 pp] 33)).alloc (.cells #[.int .i64 g, .int .i64 q, .int .i64 s, .int .i64 nx, .string tb] 35)).alloc (.cells #[.int .i64 0, .string ⟨#[]⟩] 37)) := ⟨_, Lib.hid rfl⟩
  have hB : Below w.heap.size w V := by rw [hV.out]; exact grewAlloc (grewAlloc (grewAlloc (Below.refl _ _) _) _) _
  have hR : Whole V (w.heap.size + 2) 37 [.int .i64 0, .string ⟨#[]⟩] := by
    rw [hV.out]
    have := Whole.new ((w.alloc (.cells #[.string pn, .int .i64 pp] 33)).alloc (.cells #[.int .i64 g, .int .i64 q, .int .i64 s, .int .i64 nx, .string tb] 35)) 37 [.int .i64 0, .string ⟨#[]⟩]
    simpa using this
  obtain ⟨xb, hxb⟩ : ∃ q, Hid (w.heap.size = q) := ⟨_, Lib.hid rfl⟩
  obtain ⟨rb, hrb⟩ : ∃ q, Hid (w.heap.size + 2 = q) := ⟨_, Lib.hid rfl⟩
  rw [hrb.out] at hR
  have hrw : w.heap.size ≤ rb := by have := hrb.out; omega
  have r0 : V.cell? ⟨rb, 0, none⟩ = some (.int .i64 0) := hR.cell 0
  have f0 := hR.frozen 0
  have r1 : V.cell? ⟨rb, 1, none⟩ = some (.string ⟨#[]⟩) := hR.cell 1
  have f1 := hR.frozen 1
  have hend : Hid (Whole (V.setCells rb 0 [.int .i64 0, .string ⟨#[]⟩]) rb 37 [.int .i64 0, .string ⟨#[]⟩]) := Lib.hid (whole_all hR rfl)
  have hB9 : Hid (Below w.heap.size w (V.setCells rb 0 [.int .i64 0, .string ⟨#[]⟩])) := Lib.hid (below_store hB hrw (Nat.le_refl _) 0 [.int .i64 0, .string ⟨#[]⟩])
  clear hR hB
  go_enter Tryz.func21, Tryz.ntmps21
  go_upto_region 1 with fail
  rw [← show V = _ from hV.out, hrb.out]
  clear hV hrb
  go_wp2_with fail
  exact bodyPost_ret (result_cell_tmp Tryz.results21 rfl rfl hend.out.range Tryz.underlying37 rfl sizeFr23) rfl ⟨rfl, hB9.out⟩
theorem spec23_nil (nm : ByteArray) (w : World) :
    Calls Tryz.prog 16 #[.pointer none, .string nm] w fun e w' => e = .returned (.tuple #[.agg #[.string ⟨#[]⟩, .int .i64 0, .int .i64 0, .int .i64 0, .bool false], .int .i64 7]) ∧ Below w.heap.size w w' := by
  obtain ⟨V, hV⟩ : ∃ V, Hid (V = w.alloc (.cells #[.string ⟨#[]⟩, .int .i64 0, .int .i64 0, .int .i64 0, .bool false] 31)) := ⟨_, Lib.hid rfl⟩
  have hB : Below w.heap.size w V := by rw [hV.out]; exact grewAlloc (Below.refl _ _) _
  have hR : Whole V w.heap.size 31 [.string ⟨#[]⟩, .int .i64 0, .int .i64 0, .int .i64 0, .bool false] := by
    rw [hV.out]
    have := Whole.new w 31 [.string ⟨#[]⟩, .int .i64 0, .int .i64 0, .int .i64 0, .bool false]
    simpa using this
  obtain ⟨xb, hxb⟩ : ∃ q, Hid (w.heap.size = q) := ⟨_, Lib.hid rfl⟩
  obtain ⟨rb, hrb⟩ : ∃ q, Hid (w.heap.size = q) := ⟨_, Lib.hid rfl⟩
  rw [hrb.out] at hR
  have hrw : w.heap.size ≤ rb := by have := hrb.out; omega
  have r0 : V.cell? ⟨rb, 0, none⟩ = some (.string ⟨#[]⟩) := hR.cell 0
  have f0 := hR.frozen 0
  have r1 : V.cell? ⟨rb, 1, none⟩ = some (.int .i64 0) := hR.cell 1
  have f1 := hR.frozen 1
  have r2 : V.cell? ⟨rb, 2, none⟩ = some (.int .i64 0) := hR.cell 2
  have f2 := hR.frozen 2
  have r3 : V.cell? ⟨rb, 3, none⟩ = some (.int .i64 0) := hR.cell 3
  have f3 := hR.frozen 3
  have r4 : V.cell? ⟨rb, 4, none⟩ = some (.bool false) := hR.cell 4
  have f4 := hR.frozen 4
  have hend : Hid (Whole (V.setCells rb 0 [.string ⟨#[]⟩, .int .i64 0, .int .i64 0, .int .i64 0, .bool false]) rb 31 [.string ⟨#[]⟩, .int .i64 0, .int .i64 0, .int .i64 0, .bool false]) := Lib.hid (whole_all hR rfl)
  have hB9 : Hid (Below w.heap.size w (V.setCells rb 0 [.string ⟨#[]⟩, .int .i64 0, .int .i64 0, .int .i64 0, .bool false])) := Lib.hid (below_store hB hrw (Nat.le_refl _) 0 [.string ⟨#[]⟩, .int .i64 0, .int .i64 0, .int .i64 0, .bool false])
  clear hR hB
  go_enter Tryz.func16, Tryz.ntmps16
  go_upto_region 1 with fail
  rw [← show V = _ from hV.out, hrb.out]
  clear hV hxb hrb
  go_wp2_with fail
  exact bodyPost_ret (result_cell_tmp Tryz.results16 rfl rfl hend.out.range Tryz.underlying31 rfl sizeSpN) rfl ⟨rfl, hB9.out⟩
theorem meta23_nil (pn : ByteArray) (pp : Int) (w : World) :
    Calls Tryz.prog 22 #[.pointer none, .agg #[.string pn, .int .i64 pp]] w fun e w' => e = .returned (.tuple #[.agg #[.int .i64 0, .int .i64 0, .int .i64 0, .int .i64 0, .string ⟨#[]⟩], .int .i64 7]) ∧ Below w.heap.size w w' := by
  obtain ⟨V, hV⟩ : ∃ V, Hid (V = (w.alloc (.cells #[.string pn, .int .i64 pp] 33)).alloc (.cells #[.int .i64 0, .int .i64 0, .int .i64 0, .int .i64 0, .string ⟨#[]⟩] 35)) := ⟨_, Lib.hid rfl⟩
  have hB : Below w.heap.size w V := by rw [hV.out]; exact grewAlloc (grewAlloc (Below.refl _ _) _) _
  have hR : Whole V (w.heap.size + 1) 35 [.int .i64 0, .int .i64 0, .int .i64 0, .int .i64 0, .string ⟨#[]⟩] := by
    rw [hV.out]
    have := Whole.new (w.alloc (.cells #[.string pn, .int .i64 pp] 33)) 35 [.int .i64 0, .int .i64 0, .int .i64 0, .int .i64 0, .string ⟨#[]⟩]
    simpa using this
  obtain ⟨xb, hxb⟩ : ∃ q, Hid (w.heap.size = q) := ⟨_, Lib.hid rfl⟩
  obtain ⟨rb, hrb⟩ : ∃ q, Hid (w.heap.size + 1 = q) := ⟨_, Lib.hid rfl⟩
  rw [hrb.out] at hR
  have hrw : w.heap.size ≤ rb := by have := hrb.out; omega
  have r0 : V.cell? ⟨rb, 0, none⟩ = some (.int .i64 0) := hR.cell 0
  have f0 := hR.frozen 0
  have r1 : V.cell? ⟨rb, 1, none⟩ = some (.int .i64 0) := hR.cell 1
  have f1 := hR.frozen 1
  have r2 : V.cell? ⟨rb, 2, none⟩ = some (.int .i64 0) := hR.cell 2
  have f2 := hR.frozen 2
  have r3 : V.cell? ⟨rb, 3, none⟩ = some (.int .i64 0) := hR.cell 3
  have f3 := hR.frozen 3
  have r4 : V.cell? ⟨rb, 4, none⟩ = some (.string ⟨#[]⟩) := hR.cell 4
  have f4 := hR.frozen 4
  have hend : Hid (Whole (V.setCells rb 0 [.int .i64 0, .int .i64 0, .int .i64 0, .int .i64 0, .string ⟨#[]⟩]) rb 35 [.int .i64 0, .int .i64 0, .int .i64 0, .int .i64 0, .string ⟨#[]⟩]) := Lib.hid (whole_all hR rfl)
  have hB9 : Hid (Below w.heap.size w (V.setCells rb 0 [.int .i64 0, .int .i64 0, .int .i64 0, .int .i64 0, .string ⟨#[]⟩])) := Lib.hid (below_store hB hrw (Nat.le_refl _) 0 [.int .i64 0, .int .i64 0, .int .i64 0, .int .i64 0, .string ⟨#[]⟩])
  clear hR hB
  go_enter Tryz.func22, Tryz.ntmps22
  go_upto_region 1 with fail
  rw [← show V = _ from hV.out, hrb.out, hxb.out]
  clear hV hxb hrb
  go_wp2_with fail
  exact bodyPost_ret (result_cell_tmp Tryz.results22 rfl rfl hend.out.range Tryz.underlying35 rfl sizeMt) rfl ⟨rfl, hB9.out⟩
theorem log23_nil (pn : ByteArray) (pp : Int) (w : World) :
    Calls Tryz.prog 17 #[.pointer none, .agg #[.string pn, .int .i64 pp]] w fun e w' => e = .returned (.tuple #[.int .i64 0, .int .i64 7]) ∧ Below w.heap.size w w' := by
  have hB := Lib.hid ((Below.refl w.heap.size w).alloc (Nat.le_refl _) (.cells #[.string pn, .int .i64 pp] 33))
  go_enter Tryz.func17, Tryz.ntmps17
  go_wp2_with fail
  go_ret2
  exact ⟨rfl, hB.out⟩
theorem count23_nil (w : World) :
    Calls Tryz.prog 23 #[.pointer none] w fun e w' => e = .returned (.int .i64 0) ∧ w = w' := by
  go_enter Tryz.func23, Tryz.ntmps23
  go_wp2_with fail
  go_ret
  exact ⟨rfl, rfl⟩
theorem names23_nil (w : World) :
    Calls Tryz.prog 15 #[.pointer none] w fun e w' => e = .returned (.slice none 0 0) ∧ w = w' := by
  go_enter Tryz.func15, Tryz.ntmps15
  go_wp2_with fail
  go_ret
  exact ⟨rfl, rfl⟩
theorem snap23_nil (w : World) :
    Calls Tryz.prog 18 #[.pointer none] w fun e w' => e = .returned (.slice none 0 0) ∧ w = w' := by
  go_enter Tryz.func18, Tryz.ntmps18
  go_wp2_with fail
  go_ret
  exact ⟨rfl, rfl⟩
end Go.Proofs.YtbbhnbdekblghaaGreat.W

/- The walks of package super's Pick. -/
import Derived.Test.YtkmlmondhmpkkaaProg
import Derived.Test.YtkmlmondhmpkkaaSuperE
import Derived.Deep.LoopGhost
namespace Go.Proofs.Ytkmlmondhmpkkaa.W
open Go.RowKit
open Go.Proofs.Ytkmlmondhmpkkaa.M Go.Proofs.Ytkmlmondhmpkkaa.D Go.Proofs.Ytkmlmondhmpkkaa.Z
set_option linter.unusedVariables false

theorem index2a (a b : ByteArray) (w : World) : (Instr.index 91 (.agg #[.string a, .string b]) (.int .i64 0)).run Try.prog w = .ok (.string a) w := by
  simp [Instr.index, run_underlying Try.underlying91, asIntOf, go_sem]
theorem index2b (a b : ByteArray) (w : World) : (Instr.index 91 (.agg #[.string a, .string b]) (.int .i64 1)).run Try.prog w = .ok (.string b) w := by
  simp [Instr.index, run_underlying Try.underlying91, asIntOf, go_sem]
set_option maxRecDepth 100000 in
set_option maxHeartbeats 2000000 in
theorem pick_RRg (a b : ByteArray) {a0 a1 a2 a3 a4 b0 b1 b2 b3 b4 : Nat} (w : World) (hda : ∀ W : World, Calls Try.prog 17 #[.string a] W fun x w' => x = .returned (.tuple #[.agg #[.int .u32 a0, .int .u32 a1, .int .u32 a2, .int .u32 a3, .int .u32 a4], .int .i64 0]) ∧ Below W.heap.size W w') (hdb : ∀ W : World, Calls Try.prog 17 #[.string b] W fun x w' => x = .returned (.tuple #[.agg #[.int .u32 b0, .int .u32 b1, .int .u32 b2, .int .u32 b3, .int .u32 b4], .int .i64 0]) ∧ Below W.heap.size W w') (ha0 : a0 < 4294967296) (pa : ((a0 : Int) % 2 != 0) = false) (hb0 : b0 < 4294967296) (pb : ((b0 : Int) % 2 != 1) = false) (hg : decide (a0 < b0) = false) :
    Calls Try.prog 23 #[.string a, .string b] w fun x w' => x = .returned (.tuple #[.agg (u32s a0 a1 a2 a3 a4).toArray, .int .i64 0]) ∧ Below w.heap.size w w' := by
  replace hda := Lib.hid hda
  replace hdb := Lib.hid hdb
  have ix0 := index2a a b
  have ix1 := index2b a b
  replace pa := Lib.hid pa
  replace pb := Lib.hid pb
  replace hg := Lib.hid hg
  go_enter Try.func23, Try.ntmps23
  go_wp2_with fail
  have hR0 := (Whole.new w 43 (u32s 0 0 0 0 0)).alloc (.cells (u32s 0 0 0 0 0).toArray 43)
  have hP0 := Whole.new (w.alloc (.cells (u32s 0 0 0 0 0).toArray 43)) 43 (u32s 0 0 0 0 0)
  rw [show (w.alloc (.cells (u32s 0 0 0 0 0).toArray 43)).heap.size = w.heap.size + 1 from by simp] at hP0
  have hB0 := grewAlloc (grewAlloc (Below.refl _ w) (.cells (u32s 0 0 0 0 0).toArray 43)) (.cells (u32s 0 0 0 0 0).toArray 43)
  replace hR0 := Lib.hid hR0
  replace hP0 := Lib.hid hP0
  replace hB0 := Lib.hid hB0
  go_loopg [7, 16] 2 (fun ga x i wr => (2 ≤ ga ∧ i = .int .i64 0 ∧ x = .int .i64 22 ∧ Hid (Whole wr (w.heap.size + 1) 43 (u32s 0 0 0 0 0) ∧ Whole wr w.heap.size 43 (u32s 0 0 0 0 0) ∧ Below w.heap.size w wr)) ∨ (1 ≤ ga ∧ i = .int .i64 1 ∧ x = .int .i64 0 ∧ Hid (Whole wr (w.heap.size + 1) 43 (u32s a0 a1 a2 a3 a4) ∧ Whole wr w.heap.size 43 (u32s 0 0 0 0 0) ∧ Below w.heap.size w wr)) ∨ (i = .int .i64 2 ∧ x = .int .i64 0 ∧ Hid (Whole wr (w.heap.size + 1) 43 (u32s a0 a1 a2 a3 a4) ∧ Whole wr w.heap.size 43 (u32s 0 0 0 0 0) ∧ Below w.heap.size w wr)))
  case atStart => exact .inl ⟨by omega, rfl, rfl, Lib.hid ⟨hP0.out, hR0.out, hB0.out⟩⟩
  case round =>
    clear hR0 hP0 hB0
    rcases hrel with ⟨hg2, rfl, rfl, hrow⟩ | ⟨hg1, rfl, rfl, hrow⟩ | ⟨rfl, rfl, hrow⟩
    · skip
      go_wp2_with fail
      refine (hda.out _).mono ?_
      rintro ee w1 ⟨rfl, hb1⟩
      have hP1 := (hrow.out.1.below hb1 hrow.out.1.lt).alloc (.cells (u32s a0 a1 a2 a3 a4).toArray 43)
      have hR1 := (hrow.out.2.1.below hb1 hrow.out.2.1.lt).alloc (.cells (u32s a0 a1 a2 a3 a4).toArray 43)
      have hB1 := grewAlloc (grew hrow.out.2.2 hb1) (.cells (u32s a0 a1 a2 a3 a4).toArray 43)
      have hD1 := Whole.new w1 43 (u32s a0 a1 a2 a3 a4)
      clear hrow hb1
      go_wp2_with fail
      refine (place_any (a0 : Nat) a1 a2 a3 a4 _ (by omega) (by omega)).mono ?_
      rintro ee w2 ⟨rfl, hb2⟩
      replace hP1 := hP1.below hb2 hP1.lt
      replace hR1 := hR1.below hb2 hR1.lt
      replace hB1 := grew hB1 hb2
      replace hD1 := hD1.below hb2 hD1.lt
      clear hb2
      generalize w1.heap.size = db at *
      have px := pa.out
      have q0 : w2.cell? ⟨db, 0, none⟩ = some (.int .u32 a0) := hD1.cell 0
      have q1 := hP1.cell 0
      simp only [List.getElem?_cons_zero] at q1
      replace hP1 := Lib.hid hP1
      replace hR1 := Lib.hid hR1
      replace hB1 := Lib.hid hB1
      go_wp2_with (with_reducible refine zLoad 43 _ rfl ?_)
      refine Lib.hid ?_
      refine wpList_load_mid rfl 43 _ rfl db 0 rfl (u32s a0 a1 a2 a3 a4) _ hD1.range Try.underlying43 rfl sizeS5 ?_
      go_wp2_with (with_reducible refine zStore 43 _ _ rfl ?_)
      refine Lib.hid ?_
      refine wpList_store_mid rfl 43 _ _ rfl (w.heap.size + 1) 0 (u32s a0 a1 a2 a3 a4).toArray rfl rfl (hP1.out.there 0 5 (by simp)) sizeS5 (all_oneCell_toArray (u32s_one _ _ _ _ _)) ?_
      have hP2 := Lib.hid (whole_all hP1.out (vs := u32s a0 a1 a2 a3 a4) rfl)
      have hR2 := Lib.hid (hR1.out.far (c := w.heap.size + 1) (by omega) 0 (u32s a0 a1 a2 a3 a4))
      have hB2 := Lib.hid (below_store hB1.out (c := w.heap.size + 1) (by omega) (Nat.le_refl _) 0 (u32s a0 a1 a2 a3 a4))
      clear hP1 hR1 hB1 hD1 q0 q1
      rw [show ((u32s a0 a1 a2 a3 a4).toArray.toList) = u32s a0 a1 a2 a3 a4 from rfl]
      generalize World.setCells _ (w.heap.size + 1) 0 (u32s a0 a1 a2 a3 a4) = w3 at *
      go_wp2_with fail
      go_roundg (gk - 1)
      case measure => omega
      case rel => exact .inr (.inl ⟨by omega, by go_num, rfl, Lib.hid ⟨hP2.out, hR2.out, hB2.out⟩⟩)
    · skip
      go_wp2_with fail
      refine (hdb.out _).mono ?_
      rintro ee w1 ⟨rfl, hb1⟩
      have hP1 := (hrow.out.1.below hb1 hrow.out.1.lt).alloc (.cells (u32s b0 b1 b2 b3 b4).toArray 43)
      have hR1 := (hrow.out.2.1.below hb1 hrow.out.2.1.lt).alloc (.cells (u32s b0 b1 b2 b3 b4).toArray 43)
      have hB1 := grewAlloc (grew hrow.out.2.2 hb1) (.cells (u32s b0 b1 b2 b3 b4).toArray 43)
      have hD1 := Whole.new w1 43 (u32s b0 b1 b2 b3 b4)
      clear hrow hb1
      go_wp2_with fail
      refine (place_any (b0 : Nat) b1 b2 b3 b4 _ (by omega) (by omega)).mono ?_
      rintro ee w2 ⟨rfl, hb2⟩
      replace hP1 := hP1.below hb2 hP1.lt
      replace hR1 := hR1.below hb2 hR1.lt
      replace hB1 := grew hB1 hb2
      replace hD1 := hD1.below hb2 hD1.lt
      clear hb2
      generalize w1.heap.size = db at *
      have px := pb.out
      have hgg := hg.out
      have q0 : w2.cell? ⟨db, 0, none⟩ = some (.int .u32 b0) := hD1.cell 0
      have q1 := hP1.cell 0
      simp only [List.getElem?_cons_zero] at q1
      have hP2 := Lib.hid hP1
      have hR2 := Lib.hid hR1
      have hB2 := Lib.hid hB1
      clear hP1 hR1 hB1 hD1
      go_wp2_with fail
      go_roundg (gk - 1)
      case measure => omega
      case rel => exact .inr (.inr ⟨by go_num, rfl, Lib.hid ⟨hP2.out, hR2.out, hB2.out⟩⟩)
    · go_wp2_with (with_reducible refine zLoad 43 _ rfl ?_)
      refine Lib.hid ?_
      refine wpList_load_mid rfl 43 _ rfl (w.heap.size + 1) 0 rfl (u32s a0 a1 a2 a3 a4) _ hrow.out.1.range Try.underlying43 rfl sizeS5 ?_
      go_wp2_with (with_reducible refine zStore 43 _ _ rfl ?_)
      refine Lib.hid ?_
      refine wpList_store_mid rfl 43 _ _ rfl w.heap.size 0 (u32s a0 a1 a2 a3 a4).toArray rfl rfl (hrow.out.2.1.there 0 5 (by simp)) sizeS5 (all_oneCell_toArray (u32s_one _ _ _ _ _)) ?_
      go_wp2_with fail
      have hfin := whole_all hrow.out.2.1 (vs := u32s a0 a1 a2 a3 a4) rfl
      exact bodyPost_ret (result_cell_tmp Try.results23 rfl rfl hfin.range Try.underlying43 rfl sizeS5) rfl ⟨rfl, below_store hrow.out.2.2 (Nat.le_refl _) (Nat.le_refl _) 0 _⟩
set_option maxRecDepth 100000 in
set_option maxHeartbeats 2000000 in
theorem pick_RRl (a b : ByteArray) {a0 a1 a2 a3 a4 b0 b1 b2 b3 b4 : Nat} (w : World) (hda : ∀ W : World, Calls Try.prog 17 #[.string a] W fun x w' => x = .returned (.tuple #[.agg #[.int .u32 a0, .int .u32 a1, .int .u32 a2, .int .u32 a3, .int .u32 a4], .int .i64 0]) ∧ Below W.heap.size W w') (hdb : ∀ W : World, Calls Try.prog 17 #[.string b] W fun x w' => x = .returned (.tuple #[.agg #[.int .u32 b0, .int .u32 b1, .int .u32 b2, .int .u32 b3, .int .u32 b4], .int .i64 0]) ∧ Below W.heap.size W w') (ha0 : a0 < 4294967296) (pa : ((a0 : Int) % 2 != 0) = false) (hb0 : b0 < 4294967296) (pb : ((b0 : Int) % 2 != 1) = false) (hg : decide (a0 < b0) = true) :
    Calls Try.prog 23 #[.string a, .string b] w fun x w' => x = .returned (.tuple #[.agg (u32s b0 b1 b2 b3 b4).toArray, .int .i64 0]) ∧ Below w.heap.size w w' := by
  replace hda := Lib.hid hda
  replace hdb := Lib.hid hdb
  have ix0 := index2a a b
  have ix1 := index2b a b
  replace pa := Lib.hid pa
  replace pb := Lib.hid pb
  replace hg := Lib.hid hg
  go_enter Try.func23, Try.ntmps23
  go_wp2_with fail
  have hR0 := (Whole.new w 43 (u32s 0 0 0 0 0)).alloc (.cells (u32s 0 0 0 0 0).toArray 43)
  have hP0 := Whole.new (w.alloc (.cells (u32s 0 0 0 0 0).toArray 43)) 43 (u32s 0 0 0 0 0)
  rw [show (w.alloc (.cells (u32s 0 0 0 0 0).toArray 43)).heap.size = w.heap.size + 1 from by simp] at hP0
  have hB0 := grewAlloc (grewAlloc (Below.refl _ w) (.cells (u32s 0 0 0 0 0).toArray 43)) (.cells (u32s 0 0 0 0 0).toArray 43)
  replace hR0 := Lib.hid hR0
  replace hP0 := Lib.hid hP0
  replace hB0 := Lib.hid hB0
  go_loopg [7, 16] 2 (fun ga x i wr => (2 ≤ ga ∧ i = .int .i64 0 ∧ x = .int .i64 22 ∧ Hid (Whole wr (w.heap.size + 1) 43 (u32s 0 0 0 0 0) ∧ Whole wr w.heap.size 43 (u32s 0 0 0 0 0) ∧ Below w.heap.size w wr)) ∨ (1 ≤ ga ∧ i = .int .i64 1 ∧ x = .int .i64 0 ∧ Hid (Whole wr (w.heap.size + 1) 43 (u32s a0 a1 a2 a3 a4) ∧ Whole wr w.heap.size 43 (u32s 0 0 0 0 0) ∧ Below w.heap.size w wr)) ∨ (i = .int .i64 2 ∧ x = .int .i64 0 ∧ Hid (Whole wr (w.heap.size + 1) 43 (u32s b0 b1 b2 b3 b4) ∧ Whole wr w.heap.size 43 (u32s 0 0 0 0 0) ∧ Below w.heap.size w wr)))
  case atStart => exact .inl ⟨by omega, rfl, rfl, Lib.hid ⟨hP0.out, hR0.out, hB0.out⟩⟩
  case round =>
    clear hR0 hP0 hB0
    rcases hrel with ⟨hg2, rfl, rfl, hrow⟩ | ⟨hg1, rfl, rfl, hrow⟩ | ⟨rfl, rfl, hrow⟩
    · skip
      go_wp2_with fail
      refine (hda.out _).mono ?_
      rintro ee w1 ⟨rfl, hb1⟩
      have hP1 := (hrow.out.1.below hb1 hrow.out.1.lt).alloc (.cells (u32s a0 a1 a2 a3 a4).toArray 43)
      have hR1 := (hrow.out.2.1.below hb1 hrow.out.2.1.lt).alloc (.cells (u32s a0 a1 a2 a3 a4).toArray 43)
      have hB1 := grewAlloc (grew hrow.out.2.2 hb1) (.cells (u32s a0 a1 a2 a3 a4).toArray 43)
      have hD1 := Whole.new w1 43 (u32s a0 a1 a2 a3 a4)
      clear hrow hb1
      go_wp2_with fail
      refine (place_any (a0 : Nat) a1 a2 a3 a4 _ (by omega) (by omega)).mono ?_
      rintro ee w2 ⟨rfl, hb2⟩
      replace hP1 := hP1.below hb2 hP1.lt
      replace hR1 := hR1.below hb2 hR1.lt
      replace hB1 := grew hB1 hb2
      replace hD1 := hD1.below hb2 hD1.lt
      clear hb2
      generalize w1.heap.size = db at *
      have px := pa.out
      have q0 : w2.cell? ⟨db, 0, none⟩ = some (.int .u32 a0) := hD1.cell 0
      have q1 := hP1.cell 0
      simp only [List.getElem?_cons_zero] at q1
      replace hP1 := Lib.hid hP1
      replace hR1 := Lib.hid hR1
      replace hB1 := Lib.hid hB1
      go_wp2_with (with_reducible refine zLoad 43 _ rfl ?_)
      refine Lib.hid ?_
      refine wpList_load_mid rfl 43 _ rfl db 0 rfl (u32s a0 a1 a2 a3 a4) _ hD1.range Try.underlying43 rfl sizeS5 ?_
      go_wp2_with (with_reducible refine zStore 43 _ _ rfl ?_)
      refine Lib.hid ?_
      refine wpList_store_mid rfl 43 _ _ rfl (w.heap.size + 1) 0 (u32s a0 a1 a2 a3 a4).toArray rfl rfl (hP1.out.there 0 5 (by simp)) sizeS5 (all_oneCell_toArray (u32s_one _ _ _ _ _)) ?_
      have hP2 := Lib.hid (whole_all hP1.out (vs := u32s a0 a1 a2 a3 a4) rfl)
      have hR2 := Lib.hid (hR1.out.far (c := w.heap.size + 1) (by omega) 0 (u32s a0 a1 a2 a3 a4))
      have hB2 := Lib.hid (below_store hB1.out (c := w.heap.size + 1) (by omega) (Nat.le_refl _) 0 (u32s a0 a1 a2 a3 a4))
      clear hP1 hR1 hB1 hD1 q0 q1
      rw [show ((u32s a0 a1 a2 a3 a4).toArray.toList) = u32s a0 a1 a2 a3 a4 from rfl]
      generalize World.setCells _ (w.heap.size + 1) 0 (u32s a0 a1 a2 a3 a4) = w3 at *
      go_wp2_with fail
      go_roundg (gk - 1)
      case measure => omega
      case rel => exact .inr (.inl ⟨by omega, by go_num, rfl, Lib.hid ⟨hP2.out, hR2.out, hB2.out⟩⟩)
    · skip
      go_wp2_with fail
      refine (hdb.out _).mono ?_
      rintro ee w1 ⟨rfl, hb1⟩
      have hP1 := (hrow.out.1.below hb1 hrow.out.1.lt).alloc (.cells (u32s b0 b1 b2 b3 b4).toArray 43)
      have hR1 := (hrow.out.2.1.below hb1 hrow.out.2.1.lt).alloc (.cells (u32s b0 b1 b2 b3 b4).toArray 43)
      have hB1 := grewAlloc (grew hrow.out.2.2 hb1) (.cells (u32s b0 b1 b2 b3 b4).toArray 43)
      have hD1 := Whole.new w1 43 (u32s b0 b1 b2 b3 b4)
      clear hrow hb1
      go_wp2_with fail
      refine (place_any (b0 : Nat) b1 b2 b3 b4 _ (by omega) (by omega)).mono ?_
      rintro ee w2 ⟨rfl, hb2⟩
      replace hP1 := hP1.below hb2 hP1.lt
      replace hR1 := hR1.below hb2 hR1.lt
      replace hB1 := grew hB1 hb2
      replace hD1 := hD1.below hb2 hD1.lt
      clear hb2
      generalize w1.heap.size = db at *
      have px := pb.out
      have hgg := hg.out
      have q0 : w2.cell? ⟨db, 0, none⟩ = some (.int .u32 b0) := hD1.cell 0
      have q1 := hP1.cell 0
      simp only [List.getElem?_cons_zero] at q1
      replace hP1 := Lib.hid hP1
      replace hR1 := Lib.hid hR1
      replace hB1 := Lib.hid hB1
      go_wp2_with (with_reducible refine zLoad 43 _ rfl ?_)
      refine Lib.hid ?_
      refine wpList_load_mid rfl 43 _ rfl db 0 rfl (u32s b0 b1 b2 b3 b4) _ hD1.range Try.underlying43 rfl sizeS5 ?_
      go_wp2_with (with_reducible refine zStore 43 _ _ rfl ?_)
      refine Lib.hid ?_
      refine wpList_store_mid rfl 43 _ _ rfl (w.heap.size + 1) 0 (u32s b0 b1 b2 b3 b4).toArray rfl rfl (hP1.out.there 0 5 (by simp)) sizeS5 (all_oneCell_toArray (u32s_one _ _ _ _ _)) ?_
      have hP2 := Lib.hid (whole_all hP1.out (vs := u32s b0 b1 b2 b3 b4) rfl)
      have hR2 := Lib.hid (hR1.out.far (c := w.heap.size + 1) (by omega) 0 (u32s b0 b1 b2 b3 b4))
      have hB2 := Lib.hid (below_store hB1.out (c := w.heap.size + 1) (by omega) (Nat.le_refl _) 0 (u32s b0 b1 b2 b3 b4))
      clear hP1 hR1 hB1 hD1 q0 q1
      rw [show ((u32s b0 b1 b2 b3 b4).toArray.toList) = u32s b0 b1 b2 b3 b4 from rfl]
      generalize World.setCells _ (w.heap.size + 1) 0 (u32s b0 b1 b2 b3 b4) = w3 at *
      go_wp2_with fail
      go_roundg (gk - 1)
      case measure => omega
      case rel => exact .inr (.inr ⟨by go_num, rfl, Lib.hid ⟨hP2.out, hR2.out, hB2.out⟩⟩)
    · go_wp2_with (with_reducible refine zLoad 43 _ rfl ?_)
      refine Lib.hid ?_
      refine wpList_load_mid rfl 43 _ rfl (w.heap.size + 1) 0 rfl (u32s b0 b1 b2 b3 b4) _ hrow.out.1.range Try.underlying43 rfl sizeS5 ?_
      go_wp2_with (with_reducible refine zStore 43 _ _ rfl ?_)
      refine Lib.hid ?_
      refine wpList_store_mid rfl 43 _ _ rfl w.heap.size 0 (u32s b0 b1 b2 b3 b4).toArray rfl rfl (hrow.out.2.1.there 0 5 (by simp)) sizeS5 (all_oneCell_toArray (u32s_one _ _ _ _ _)) ?_
      go_wp2_with fail
      have hfin := whole_all hrow.out.2.1 (vs := u32s b0 b1 b2 b3 b4) rfl
      exact bodyPost_ret (result_cell_tmp Try.results23 rfl rfl hfin.range Try.underlying43 rfl sizeS5) rfl ⟨rfl, below_store hrow.out.2.2 (Nat.le_refl _) (Nat.le_refl _) 0 _⟩
set_option maxRecDepth 100000 in
set_option maxHeartbeats 2000000 in
theorem pick_RN (a b : ByteArray) {a0 a1 a2 a3 a4 : Nat} (w : World) (hda : ∀ W : World, Calls Try.prog 17 #[.string a] W fun x w' => x = .returned (.tuple #[.agg #[.int .u32 a0, .int .u32 a1, .int .u32 a2, .int .u32 a3, .int .u32 a4], .int .i64 0]) ∧ Below W.heap.size W w') (hdb : ∀ W : World, Calls Try.prog 17 #[.string b] W fun x w' => x = .returned (.tuple #[.agg #[.int .u32 0, .int .u32 0, .int .u32 0, .int .u32 0, .int .u32 0], .int .i64 4]) ∧ Below W.heap.size W w') (ha0 : a0 < 4294967296) (pa : ((a0 : Int) % 2 != 0) = false) :
    Calls Try.prog 23 #[.string a, .string b] w fun x w' => x = .returned (.tuple #[.agg (u32s a0 a1 a2 a3 a4).toArray, .int .i64 0]) ∧ Below w.heap.size w w' := by
  replace hda := Lib.hid hda
  replace hdb := Lib.hid hdb
  have ix0 := index2a a b
  have ix1 := index2b a b
  replace pa := Lib.hid pa
  go_enter Try.func23, Try.ntmps23
  go_wp2_with fail
  have hR0 := (Whole.new w 43 (u32s 0 0 0 0 0)).alloc (.cells (u32s 0 0 0 0 0).toArray 43)
  have hP0 := Whole.new (w.alloc (.cells (u32s 0 0 0 0 0).toArray 43)) 43 (u32s 0 0 0 0 0)
  rw [show (w.alloc (.cells (u32s 0 0 0 0 0).toArray 43)).heap.size = w.heap.size + 1 from by simp] at hP0
  have hB0 := grewAlloc (grewAlloc (Below.refl _ w) (.cells (u32s 0 0 0 0 0).toArray 43)) (.cells (u32s 0 0 0 0 0).toArray 43)
  replace hR0 := Lib.hid hR0
  replace hP0 := Lib.hid hP0
  replace hB0 := Lib.hid hB0
  go_loopg [7, 16] 2 (fun ga x i wr => (2 ≤ ga ∧ i = .int .i64 0 ∧ x = .int .i64 22 ∧ Hid (Whole wr (w.heap.size + 1) 43 (u32s 0 0 0 0 0) ∧ Whole wr w.heap.size 43 (u32s 0 0 0 0 0) ∧ Below w.heap.size w wr)) ∨ (1 ≤ ga ∧ i = .int .i64 1 ∧ x = .int .i64 0 ∧ Hid (Whole wr (w.heap.size + 1) 43 (u32s a0 a1 a2 a3 a4) ∧ Whole wr w.heap.size 43 (u32s 0 0 0 0 0) ∧ Below w.heap.size w wr)) ∨ (i = .int .i64 2 ∧ x = .int .i64 0 ∧ Hid (Whole wr (w.heap.size + 1) 43 (u32s a0 a1 a2 a3 a4) ∧ Whole wr w.heap.size 43 (u32s 0 0 0 0 0) ∧ Below w.heap.size w wr)))
  case atStart => exact .inl ⟨by omega, rfl, rfl, Lib.hid ⟨hP0.out, hR0.out, hB0.out⟩⟩
  case round =>
    clear hR0 hP0 hB0
    rcases hrel with ⟨hg2, rfl, rfl, hrow⟩ | ⟨hg1, rfl, rfl, hrow⟩ | ⟨rfl, rfl, hrow⟩
    · skip
      go_wp2_with fail
      refine (hda.out _).mono ?_
      rintro ee w1 ⟨rfl, hb1⟩
      have hP1 := (hrow.out.1.below hb1 hrow.out.1.lt).alloc (.cells (u32s a0 a1 a2 a3 a4).toArray 43)
      have hR1 := (hrow.out.2.1.below hb1 hrow.out.2.1.lt).alloc (.cells (u32s a0 a1 a2 a3 a4).toArray 43)
      have hB1 := grewAlloc (grew hrow.out.2.2 hb1) (.cells (u32s a0 a1 a2 a3 a4).toArray 43)
      have hD1 := Whole.new w1 43 (u32s a0 a1 a2 a3 a4)
      clear hrow hb1
      go_wp2_with fail
      refine (place_any (a0 : Nat) a1 a2 a3 a4 _ (by omega) (by omega)).mono ?_
      rintro ee w2 ⟨rfl, hb2⟩
      replace hP1 := hP1.below hb2 hP1.lt
      replace hR1 := hR1.below hb2 hR1.lt
      replace hB1 := grew hB1 hb2
      replace hD1 := hD1.below hb2 hD1.lt
      clear hb2
      generalize w1.heap.size = db at *
      have px := pa.out
      have q0 : w2.cell? ⟨db, 0, none⟩ = some (.int .u32 a0) := hD1.cell 0
      have q1 := hP1.cell 0
      simp only [List.getElem?_cons_zero] at q1
      replace hP1 := Lib.hid hP1
      replace hR1 := Lib.hid hR1
      replace hB1 := Lib.hid hB1
      go_wp2_with (with_reducible refine zLoad 43 _ rfl ?_)
      refine Lib.hid ?_
      refine wpList_load_mid rfl 43 _ rfl db 0 rfl (u32s a0 a1 a2 a3 a4) _ hD1.range Try.underlying43 rfl sizeS5 ?_
      go_wp2_with (with_reducible refine zStore 43 _ _ rfl ?_)
      refine Lib.hid ?_
      refine wpList_store_mid rfl 43 _ _ rfl (w.heap.size + 1) 0 (u32s a0 a1 a2 a3 a4).toArray rfl rfl (hP1.out.there 0 5 (by simp)) sizeS5 (all_oneCell_toArray (u32s_one _ _ _ _ _)) ?_
      have hP2 := Lib.hid (whole_all hP1.out (vs := u32s a0 a1 a2 a3 a4) rfl)
      have hR2 := Lib.hid (hR1.out.far (c := w.heap.size + 1) (by omega) 0 (u32s a0 a1 a2 a3 a4))
      have hB2 := Lib.hid (below_store hB1.out (c := w.heap.size + 1) (by omega) (Nat.le_refl _) 0 (u32s a0 a1 a2 a3 a4))
      clear hP1 hR1 hB1 hD1 q0 q1
      rw [show ((u32s a0 a1 a2 a3 a4).toArray.toList) = u32s a0 a1 a2 a3 a4 from rfl]
      generalize World.setCells _ (w.heap.size + 1) 0 (u32s a0 a1 a2 a3 a4) = w3 at *
      go_wp2_with fail
      go_roundg (gk - 1)
      case measure => omega
      case rel => exact .inr (.inl ⟨by omega, by go_num, rfl, Lib.hid ⟨hP2.out, hR2.out, hB2.out⟩⟩)
    · skip
      go_wp2_with fail
      refine (hdb.out _).mono ?_
      rintro ee w1 ⟨rfl, hb1⟩
      have hP1 := (hrow.out.1.below hb1 hrow.out.1.lt).alloc (.cells (u32s 0 0 0 0 0).toArray 43)
      have hR1 := (hrow.out.2.1.below hb1 hrow.out.2.1.lt).alloc (.cells (u32s 0 0 0 0 0).toArray 43)
      have hB1 := grewAlloc (grew hrow.out.2.2 hb1) (.cells (u32s 0 0 0 0 0).toArray 43)
      have hD1 := Whole.new w1 43 (u32s 0 0 0 0 0)
      clear hrow hb1
      have hP2 := Lib.hid hP1
      have hR2 := Lib.hid hR1
      have hB2 := Lib.hid hB1
      clear hP1 hR1 hB1 hD1
      go_wp2_with fail
      go_roundg (gk - 1)
      case measure => omega
      case rel => exact .inr (.inr ⟨by go_num, rfl, Lib.hid ⟨hP2.out, hR2.out, hB2.out⟩⟩)
    · go_wp2_with (with_reducible refine zLoad 43 _ rfl ?_)
      refine Lib.hid ?_
      refine wpList_load_mid rfl 43 _ rfl (w.heap.size + 1) 0 rfl (u32s a0 a1 a2 a3 a4) _ hrow.out.1.range Try.underlying43 rfl sizeS5 ?_
      go_wp2_with (with_reducible refine zStore 43 _ _ rfl ?_)
      refine Lib.hid ?_
      refine wpList_store_mid rfl 43 _ _ rfl w.heap.size 0 (u32s a0 a1 a2 a3 a4).toArray rfl rfl (hrow.out.2.1.there 0 5 (by simp)) sizeS5 (all_oneCell_toArray (u32s_one _ _ _ _ _)) ?_
      go_wp2_with fail
      have hfin := whole_all hrow.out.2.1 (vs := u32s a0 a1 a2 a3 a4) rfl
      exact bodyPost_ret (result_cell_tmp Try.results23 rfl rfl hfin.range Try.underlying43 rfl sizeS5) rfl ⟨rfl, below_store hrow.out.2.2 (Nat.le_refl _) (Nat.le_refl _) 0 _⟩
set_option maxRecDepth 100000 in
set_option maxHeartbeats 2000000 in
theorem pick_RW (a b : ByteArray) {a0 a1 a2 a3 a4 b0 b1 b2 b3 b4 : Nat} (w : World) (hda : ∀ W : World, Calls Try.prog 17 #[.string a] W fun x w' => x = .returned (.tuple #[.agg #[.int .u32 a0, .int .u32 a1, .int .u32 a2, .int .u32 a3, .int .u32 a4], .int .i64 0]) ∧ Below W.heap.size W w') (hdb : ∀ W : World, Calls Try.prog 17 #[.string b] W fun x w' => x = .returned (.tuple #[.agg #[.int .u32 b0, .int .u32 b1, .int .u32 b2, .int .u32 b3, .int .u32 b4], .int .i64 0]) ∧ Below W.heap.size W w') (ha0 : a0 < 4294967296) (pa : ((a0 : Int) % 2 != 0) = false) (hb0 : b0 < 4294967296) (pb : ((b0 : Int) % 2 != 1) = true) :
    Calls Try.prog 23 #[.string a, .string b] w fun x w' => x = .returned (.tuple #[.agg (u32s a0 a1 a2 a3 a4).toArray, .int .i64 0]) ∧ Below w.heap.size w w' := by
  replace hda := Lib.hid hda
  replace hdb := Lib.hid hdb
  have ix0 := index2a a b
  have ix1 := index2b a b
  replace pa := Lib.hid pa
  replace pb := Lib.hid pb
  go_enter Try.func23, Try.ntmps23
  go_wp2_with fail
  have hR0 := (Whole.new w 43 (u32s 0 0 0 0 0)).alloc (.cells (u32s 0 0 0 0 0).toArray 43)
  have hP0 := Whole.new (w.alloc (.cells (u32s 0 0 0 0 0).toArray 43)) 43 (u32s 0 0 0 0 0)
  rw [show (w.alloc (.cells (u32s 0 0 0 0 0).toArray 43)).heap.size = w.heap.size + 1 from by simp] at hP0
  have hB0 := grewAlloc (grewAlloc (Below.refl _ w) (.cells (u32s 0 0 0 0 0).toArray 43)) (.cells (u32s 0 0 0 0 0).toArray 43)
  replace hR0 := Lib.hid hR0
  replace hP0 := Lib.hid hP0
  replace hB0 := Lib.hid hB0
  go_loopg [7, 16] 2 (fun ga x i wr => (2 ≤ ga ∧ i = .int .i64 0 ∧ x = .int .i64 22 ∧ Hid (Whole wr (w.heap.size + 1) 43 (u32s 0 0 0 0 0) ∧ Whole wr w.heap.size 43 (u32s 0 0 0 0 0) ∧ Below w.heap.size w wr)) ∨ (1 ≤ ga ∧ i = .int .i64 1 ∧ x = .int .i64 0 ∧ Hid (Whole wr (w.heap.size + 1) 43 (u32s a0 a1 a2 a3 a4) ∧ Whole wr w.heap.size 43 (u32s 0 0 0 0 0) ∧ Below w.heap.size w wr)) ∨ (i = .int .i64 2 ∧ x = .int .i64 0 ∧ Hid (Whole wr (w.heap.size + 1) 43 (u32s a0 a1 a2 a3 a4) ∧ Whole wr w.heap.size 43 (u32s 0 0 0 0 0) ∧ Below w.heap.size w wr)))
  case atStart => exact .inl ⟨by omega, rfl, rfl, Lib.hid ⟨hP0.out, hR0.out, hB0.out⟩⟩
  case round =>
    clear hR0 hP0 hB0
    rcases hrel with ⟨hg2, rfl, rfl, hrow⟩ | ⟨hg1, rfl, rfl, hrow⟩ | ⟨rfl, rfl, hrow⟩
    · skip
      go_wp2_with fail
      refine (hda.out _).mono ?_
      rintro ee w1 ⟨rfl, hb1⟩
      have hP1 := (hrow.out.1.below hb1 hrow.out.1.lt).alloc (.cells (u32s a0 a1 a2 a3 a4).toArray 43)
      have hR1 := (hrow.out.2.1.below hb1 hrow.out.2.1.lt).alloc (.cells (u32s a0 a1 a2 a3 a4).toArray 43)
      have hB1 := grewAlloc (grew hrow.out.2.2 hb1) (.cells (u32s a0 a1 a2 a3 a4).toArray 43)
      have hD1 := Whole.new w1 43 (u32s a0 a1 a2 a3 a4)
      clear hrow hb1
      go_wp2_with fail
      refine (place_any (a0 : Nat) a1 a2 a3 a4 _ (by omega) (by omega)).mono ?_
      rintro ee w2 ⟨rfl, hb2⟩
      replace hP1 := hP1.below hb2 hP1.lt
      replace hR1 := hR1.below hb2 hR1.lt
      replace hB1 := grew hB1 hb2
      replace hD1 := hD1.below hb2 hD1.lt
      clear hb2
      generalize w1.heap.size = db at *
      have px := pa.out
      have q0 : w2.cell? ⟨db, 0, none⟩ = some (.int .u32 a0) := hD1.cell 0
      have q1 := hP1.cell 0
      simp only [List.getElem?_cons_zero] at q1
      replace hP1 := Lib.hid hP1
      replace hR1 := Lib.hid hR1
      replace hB1 := Lib.hid hB1
      go_wp2_with (with_reducible refine zLoad 43 _ rfl ?_)
      refine Lib.hid ?_
      refine wpList_load_mid rfl 43 _ rfl db 0 rfl (u32s a0 a1 a2 a3 a4) _ hD1.range Try.underlying43 rfl sizeS5 ?_
      go_wp2_with (with_reducible refine zStore 43 _ _ rfl ?_)
      refine Lib.hid ?_
      refine wpList_store_mid rfl 43 _ _ rfl (w.heap.size + 1) 0 (u32s a0 a1 a2 a3 a4).toArray rfl rfl (hP1.out.there 0 5 (by simp)) sizeS5 (all_oneCell_toArray (u32s_one _ _ _ _ _)) ?_
      have hP2 := Lib.hid (whole_all hP1.out (vs := u32s a0 a1 a2 a3 a4) rfl)
      have hR2 := Lib.hid (hR1.out.far (c := w.heap.size + 1) (by omega) 0 (u32s a0 a1 a2 a3 a4))
      have hB2 := Lib.hid (below_store hB1.out (c := w.heap.size + 1) (by omega) (Nat.le_refl _) 0 (u32s a0 a1 a2 a3 a4))
      clear hP1 hR1 hB1 hD1 q0 q1
      rw [show ((u32s a0 a1 a2 a3 a4).toArray.toList) = u32s a0 a1 a2 a3 a4 from rfl]
      generalize World.setCells _ (w.heap.size + 1) 0 (u32s a0 a1 a2 a3 a4) = w3 at *
      go_wp2_with fail
      go_roundg (gk - 1)
      case measure => omega
      case rel => exact .inr (.inl ⟨by omega, by go_num, rfl, Lib.hid ⟨hP2.out, hR2.out, hB2.out⟩⟩)
    · skip
      go_wp2_with fail
      refine (hdb.out _).mono ?_
      rintro ee w1 ⟨rfl, hb1⟩
      have hP1 := (hrow.out.1.below hb1 hrow.out.1.lt).alloc (.cells (u32s b0 b1 b2 b3 b4).toArray 43)
      have hR1 := (hrow.out.2.1.below hb1 hrow.out.2.1.lt).alloc (.cells (u32s b0 b1 b2 b3 b4).toArray 43)
      have hB1 := grewAlloc (grew hrow.out.2.2 hb1) (.cells (u32s b0 b1 b2 b3 b4).toArray 43)
      have hD1 := Whole.new w1 43 (u32s b0 b1 b2 b3 b4)
      clear hrow hb1
      go_wp2_with fail
      refine (place_any (b0 : Nat) b1 b2 b3 b4 _ (by omega) (by omega)).mono ?_
      rintro ee w2 ⟨rfl, hb2⟩
      replace hP1 := hP1.below hb2 hP1.lt
      replace hR1 := hR1.below hb2 hR1.lt
      replace hB1 := grew hB1 hb2
      replace hD1 := hD1.below hb2 hD1.lt
      clear hb2
      generalize w1.heap.size = db at *
      have px := pb.out
      have hP2 := Lib.hid hP1
      have hR2 := Lib.hid hR1
      have hB2 := Lib.hid hB1
      clear hP1 hR1 hB1 hD1
      go_wp2_with fail
      go_roundg (gk - 1)
      case measure => omega
      case rel => exact .inr (.inr ⟨by go_num, rfl, Lib.hid ⟨hP2.out, hR2.out, hB2.out⟩⟩)
    · go_wp2_with (with_reducible refine zLoad 43 _ rfl ?_)
      refine Lib.hid ?_
      refine wpList_load_mid rfl 43 _ rfl (w.heap.size + 1) 0 rfl (u32s a0 a1 a2 a3 a4) _ hrow.out.1.range Try.underlying43 rfl sizeS5 ?_
      go_wp2_with (with_reducible refine zStore 43 _ _ rfl ?_)
      refine Lib.hid ?_
      refine wpList_store_mid rfl 43 _ _ rfl w.heap.size 0 (u32s a0 a1 a2 a3 a4).toArray rfl rfl (hrow.out.2.1.there 0 5 (by simp)) sizeS5 (all_oneCell_toArray (u32s_one _ _ _ _ _)) ?_
      go_wp2_with fail
      have hfin := whole_all hrow.out.2.1 (vs := u32s a0 a1 a2 a3 a4) rfl
      exact bodyPost_ret (result_cell_tmp Try.results23 rfl rfl hfin.range Try.underlying43 rfl sizeS5) rfl ⟨rfl, below_store hrow.out.2.2 (Nat.le_refl _) (Nat.le_refl _) 0 _⟩
set_option maxRecDepth 100000 in
set_option maxHeartbeats 2000000 in
theorem pick_NR (a b : ByteArray) {b0 b1 b2 b3 b4 : Nat} (w : World) (hda : ∀ W : World, Calls Try.prog 17 #[.string a] W fun x w' => x = .returned (.tuple #[.agg #[.int .u32 0, .int .u32 0, .int .u32 0, .int .u32 0, .int .u32 0], .int .i64 4]) ∧ Below W.heap.size W w') (hdb : ∀ W : World, Calls Try.prog 17 #[.string b] W fun x w' => x = .returned (.tuple #[.agg #[.int .u32 b0, .int .u32 b1, .int .u32 b2, .int .u32 b3, .int .u32 b4], .int .i64 0]) ∧ Below W.heap.size W w') (hb0 : b0 < 4294967296) (pb : ((b0 : Int) % 2 != 1) = false) :
    Calls Try.prog 23 #[.string a, .string b] w fun x w' => x = .returned (.tuple #[.agg (u32s b0 b1 b2 b3 b4).toArray, .int .i64 0]) ∧ Below w.heap.size w w' := by
  replace hda := Lib.hid hda
  replace hdb := Lib.hid hdb
  have ix0 := index2a a b
  have ix1 := index2b a b
  replace pb := Lib.hid pb
  go_enter Try.func23, Try.ntmps23
  go_wp2_with fail
  have hR0 := (Whole.new w 43 (u32s 0 0 0 0 0)).alloc (.cells (u32s 0 0 0 0 0).toArray 43)
  have hP0 := Whole.new (w.alloc (.cells (u32s 0 0 0 0 0).toArray 43)) 43 (u32s 0 0 0 0 0)
  rw [show (w.alloc (.cells (u32s 0 0 0 0 0).toArray 43)).heap.size = w.heap.size + 1 from by simp] at hP0
  have hB0 := grewAlloc (grewAlloc (Below.refl _ w) (.cells (u32s 0 0 0 0 0).toArray 43)) (.cells (u32s 0 0 0 0 0).toArray 43)
  replace hR0 := Lib.hid hR0
  replace hP0 := Lib.hid hP0
  replace hB0 := Lib.hid hB0
  go_loopg [7, 16] 2 (fun ga x i wr => (2 ≤ ga ∧ i = .int .i64 0 ∧ x = .int .i64 22 ∧ Hid (Whole wr (w.heap.size + 1) 43 (u32s 0 0 0 0 0) ∧ Whole wr w.heap.size 43 (u32s 0 0 0 0 0) ∧ Below w.heap.size w wr)) ∨ (1 ≤ ga ∧ i = .int .i64 1 ∧ x = .int .i64 22 ∧ Hid (Whole wr (w.heap.size + 1) 43 (u32s 0 0 0 0 0) ∧ Whole wr w.heap.size 43 (u32s 0 0 0 0 0) ∧ Below w.heap.size w wr)) ∨ (i = .int .i64 2 ∧ x = .int .i64 0 ∧ Hid (Whole wr (w.heap.size + 1) 43 (u32s b0 b1 b2 b3 b4) ∧ Whole wr w.heap.size 43 (u32s 0 0 0 0 0) ∧ Below w.heap.size w wr)))
  case atStart => exact .inl ⟨by omega, rfl, rfl, Lib.hid ⟨hP0.out, hR0.out, hB0.out⟩⟩
  case round =>
    clear hR0 hP0 hB0
    rcases hrel with ⟨hg2, rfl, rfl, hrow⟩ | ⟨hg1, rfl, rfl, hrow⟩ | ⟨rfl, rfl, hrow⟩
    · skip
      go_wp2_with fail
      refine (hda.out _).mono ?_
      rintro ee w1 ⟨rfl, hb1⟩
      have hP1 := (hrow.out.1.below hb1 hrow.out.1.lt).alloc (.cells (u32s 0 0 0 0 0).toArray 43)
      have hR1 := (hrow.out.2.1.below hb1 hrow.out.2.1.lt).alloc (.cells (u32s 0 0 0 0 0).toArray 43)
      have hB1 := grewAlloc (grew hrow.out.2.2 hb1) (.cells (u32s 0 0 0 0 0).toArray 43)
      have hD1 := Whole.new w1 43 (u32s 0 0 0 0 0)
      clear hrow hb1
      have hP2 := Lib.hid hP1
      have hR2 := Lib.hid hR1
      have hB2 := Lib.hid hB1
      clear hP1 hR1 hB1 hD1
      go_wp2_with fail
      go_roundg (gk - 1)
      case measure => omega
      case rel => exact .inr (.inl ⟨by omega, by go_num, rfl, Lib.hid ⟨hP2.out, hR2.out, hB2.out⟩⟩)
    · skip
      go_wp2_with fail
      refine (hdb.out _).mono ?_
      rintro ee w1 ⟨rfl, hb1⟩
      have hP1 := (hrow.out.1.below hb1 hrow.out.1.lt).alloc (.cells (u32s b0 b1 b2 b3 b4).toArray 43)
      have hR1 := (hrow.out.2.1.below hb1 hrow.out.2.1.lt).alloc (.cells (u32s b0 b1 b2 b3 b4).toArray 43)
      have hB1 := grewAlloc (grew hrow.out.2.2 hb1) (.cells (u32s b0 b1 b2 b3 b4).toArray 43)
      have hD1 := Whole.new w1 43 (u32s b0 b1 b2 b3 b4)
      clear hrow hb1
      go_wp2_with fail
      refine (place_any (b0 : Nat) b1 b2 b3 b4 _ (by omega) (by omega)).mono ?_
      rintro ee w2 ⟨rfl, hb2⟩
      replace hP1 := hP1.below hb2 hP1.lt
      replace hR1 := hR1.below hb2 hR1.lt
      replace hB1 := grew hB1 hb2
      replace hD1 := hD1.below hb2 hD1.lt
      clear hb2
      generalize w1.heap.size = db at *
      have px := pb.out
      have q0 : w2.cell? ⟨db, 0, none⟩ = some (.int .u32 b0) := hD1.cell 0
      have q1 := hP1.cell 0
      simp only [List.getElem?_cons_zero] at q1
      replace hP1 := Lib.hid hP1
      replace hR1 := Lib.hid hR1
      replace hB1 := Lib.hid hB1
      go_wp2_with (with_reducible refine zLoad 43 _ rfl ?_)
      refine Lib.hid ?_
      refine wpList_load_mid rfl 43 _ rfl db 0 rfl (u32s b0 b1 b2 b3 b4) _ hD1.range Try.underlying43 rfl sizeS5 ?_
      go_wp2_with (with_reducible refine zStore 43 _ _ rfl ?_)
      refine Lib.hid ?_
      refine wpList_store_mid rfl 43 _ _ rfl (w.heap.size + 1) 0 (u32s b0 b1 b2 b3 b4).toArray rfl rfl (hP1.out.there 0 5 (by simp)) sizeS5 (all_oneCell_toArray (u32s_one _ _ _ _ _)) ?_
      have hP2 := Lib.hid (whole_all hP1.out (vs := u32s b0 b1 b2 b3 b4) rfl)
      have hR2 := Lib.hid (hR1.out.far (c := w.heap.size + 1) (by omega) 0 (u32s b0 b1 b2 b3 b4))
      have hB2 := Lib.hid (below_store hB1.out (c := w.heap.size + 1) (by omega) (Nat.le_refl _) 0 (u32s b0 b1 b2 b3 b4))
      clear hP1 hR1 hB1 hD1 q0 q1
      rw [show ((u32s b0 b1 b2 b3 b4).toArray.toList) = u32s b0 b1 b2 b3 b4 from rfl]
      generalize World.setCells _ (w.heap.size + 1) 0 (u32s b0 b1 b2 b3 b4) = w3 at *
      go_wp2_with fail
      go_roundg (gk - 1)
      case measure => omega
      case rel => exact .inr (.inr ⟨by go_num, rfl, Lib.hid ⟨hP2.out, hR2.out, hB2.out⟩⟩)
    · go_wp2_with (with_reducible refine zLoad 43 _ rfl ?_)
      refine Lib.hid ?_
      refine wpList_load_mid rfl 43 _ rfl (w.heap.size + 1) 0 rfl (u32s b0 b1 b2 b3 b4) _ hrow.out.1.range Try.underlying43 rfl sizeS5 ?_
      go_wp2_with (with_reducible refine zStore 43 _ _ rfl ?_)
      refine Lib.hid ?_
      refine wpList_store_mid rfl 43 _ _ rfl w.heap.size 0 (u32s b0 b1 b2 b3 b4).toArray rfl rfl (hrow.out.2.1.there 0 5 (by simp)) sizeS5 (all_oneCell_toArray (u32s_one _ _ _ _ _)) ?_
      go_wp2_with fail
      have hfin := whole_all hrow.out.2.1 (vs := u32s b0 b1 b2 b3 b4) rfl
      exact bodyPost_ret (result_cell_tmp Try.results23 rfl rfl hfin.range Try.underlying43 rfl sizeS5) rfl ⟨rfl, below_store hrow.out.2.2 (Nat.le_refl _) (Nat.le_refl _) 0 _⟩
set_option maxRecDepth 100000 in
set_option maxHeartbeats 2000000 in
theorem pick_WR (a b : ByteArray) {a0 a1 a2 a3 a4 b0 b1 b2 b3 b4 : Nat} (w : World) (hda : ∀ W : World, Calls Try.prog 17 #[.string a] W fun x w' => x = .returned (.tuple #[.agg #[.int .u32 a0, .int .u32 a1, .int .u32 a2, .int .u32 a3, .int .u32 a4], .int .i64 0]) ∧ Below W.heap.size W w') (hdb : ∀ W : World, Calls Try.prog 17 #[.string b] W fun x w' => x = .returned (.tuple #[.agg #[.int .u32 b0, .int .u32 b1, .int .u32 b2, .int .u32 b3, .int .u32 b4], .int .i64 0]) ∧ Below W.heap.size W w') (ha0 : a0 < 4294967296) (pa : ((a0 : Int) % 2 != 0) = true) (hb0 : b0 < 4294967296) (pb : ((b0 : Int) % 2 != 1) = false) :
    Calls Try.prog 23 #[.string a, .string b] w fun x w' => x = .returned (.tuple #[.agg (u32s b0 b1 b2 b3 b4).toArray, .int .i64 0]) ∧ Below w.heap.size w w' := by
  replace hda := Lib.hid hda
  replace hdb := Lib.hid hdb
  have ix0 := index2a a b
  have ix1 := index2b a b
  replace pa := Lib.hid pa
  replace pb := Lib.hid pb
  go_enter Try.func23, Try.ntmps23
  go_wp2_with fail
  have hR0 := (Whole.new w 43 (u32s 0 0 0 0 0)).alloc (.cells (u32s 0 0 0 0 0).toArray 43)
  have hP0 := Whole.new (w.alloc (.cells (u32s 0 0 0 0 0).toArray 43)) 43 (u32s 0 0 0 0 0)
  rw [show (w.alloc (.cells (u32s 0 0 0 0 0).toArray 43)).heap.size = w.heap.size + 1 from by simp] at hP0
  have hB0 := grewAlloc (grewAlloc (Below.refl _ w) (.cells (u32s 0 0 0 0 0).toArray 43)) (.cells (u32s 0 0 0 0 0).toArray 43)
  replace hR0 := Lib.hid hR0
  replace hP0 := Lib.hid hP0
  replace hB0 := Lib.hid hB0
  go_loopg [7, 16] 2 (fun ga x i wr => (2 ≤ ga ∧ i = .int .i64 0 ∧ x = .int .i64 22 ∧ Hid (Whole wr (w.heap.size + 1) 43 (u32s 0 0 0 0 0) ∧ Whole wr w.heap.size 43 (u32s 0 0 0 0 0) ∧ Below w.heap.size w wr)) ∨ (1 ≤ ga ∧ i = .int .i64 1 ∧ x = .int .i64 22 ∧ Hid (Whole wr (w.heap.size + 1) 43 (u32s 0 0 0 0 0) ∧ Whole wr w.heap.size 43 (u32s 0 0 0 0 0) ∧ Below w.heap.size w wr)) ∨ (i = .int .i64 2 ∧ x = .int .i64 0 ∧ Hid (Whole wr (w.heap.size + 1) 43 (u32s b0 b1 b2 b3 b4) ∧ Whole wr w.heap.size 43 (u32s 0 0 0 0 0) ∧ Below w.heap.size w wr)))
  case atStart => exact .inl ⟨by omega, rfl, rfl, Lib.hid ⟨hP0.out, hR0.out, hB0.out⟩⟩
  case round =>
    clear hR0 hP0 hB0
    rcases hrel with ⟨hg2, rfl, rfl, hrow⟩ | ⟨hg1, rfl, rfl, hrow⟩ | ⟨rfl, rfl, hrow⟩
    · skip
      go_wp2_with fail
      refine (hda.out _).mono ?_
      rintro ee w1 ⟨rfl, hb1⟩
      have hP1 := (hrow.out.1.below hb1 hrow.out.1.lt).alloc (.cells (u32s a0 a1 a2 a3 a4).toArray 43)
      have hR1 := (hrow.out.2.1.below hb1 hrow.out.2.1.lt).alloc (.cells (u32s a0 a1 a2 a3 a4).toArray 43)
      have hB1 := grewAlloc (grew hrow.out.2.2 hb1) (.cells (u32s a0 a1 a2 a3 a4).toArray 43)
      have hD1 := Whole.new w1 43 (u32s a0 a1 a2 a3 a4)
      clear hrow hb1
      go_wp2_with fail
      refine (place_any (a0 : Nat) a1 a2 a3 a4 _ (by omega) (by omega)).mono ?_
      rintro ee w2 ⟨rfl, hb2⟩
      replace hP1 := hP1.below hb2 hP1.lt
      replace hR1 := hR1.below hb2 hR1.lt
      replace hB1 := grew hB1 hb2
      replace hD1 := hD1.below hb2 hD1.lt
      clear hb2
      generalize w1.heap.size = db at *
      have px := pa.out
      have hP2 := Lib.hid hP1
      have hR2 := Lib.hid hR1
      have hB2 := Lib.hid hB1
      clear hP1 hR1 hB1 hD1
      go_wp2_with fail
      go_roundg (gk - 1)
      case measure => omega
      case rel => exact .inr (.inl ⟨by omega, by go_num, rfl, Lib.hid ⟨hP2.out, hR2.out, hB2.out⟩⟩)
    · skip
      go_wp2_with fail
      refine (hdb.out _).mono ?_
      rintro ee w1 ⟨rfl, hb1⟩
      have hP1 := (hrow.out.1.below hb1 hrow.out.1.lt).alloc (.cells (u32s b0 b1 b2 b3 b4).toArray 43)
      have hR1 := (hrow.out.2.1.below hb1 hrow.out.2.1.lt).alloc (.cells (u32s b0 b1 b2 b3 b4).toArray 43)
      have hB1 := grewAlloc (grew hrow.out.2.2 hb1) (.cells (u32s b0 b1 b2 b3 b4).toArray 43)
      have hD1 := Whole.new w1 43 (u32s b0 b1 b2 b3 b4)
      clear hrow hb1
      go_wp2_with fail
      refine (place_any (b0 : Nat) b1 b2 b3 b4 _ (by omega) (by omega)).mono ?_
      rintro ee w2 ⟨rfl, hb2⟩
      replace hP1 := hP1.below hb2 hP1.lt
      replace hR1 := hR1.below hb2 hR1.lt
      replace hB1 := grew hB1 hb2
      replace hD1 := hD1.below hb2 hD1.lt
      clear hb2
      generalize w1.heap.size = db at *
      have px := pb.out
      have q0 : w2.cell? ⟨db, 0, none⟩ = some (.int .u32 b0) := hD1.cell 0
      have q1 := hP1.cell 0
      simp only [List.getElem?_cons_zero] at q1
      replace hP1 := Lib.hid hP1
      replace hR1 := Lib.hid hR1
      replace hB1 := Lib.hid hB1
      go_wp2_with (with_reducible refine zLoad 43 _ rfl ?_)
      refine Lib.hid ?_
      refine wpList_load_mid rfl 43 _ rfl db 0 rfl (u32s b0 b1 b2 b3 b4) _ hD1.range Try.underlying43 rfl sizeS5 ?_
      go_wp2_with (with_reducible refine zStore 43 _ _ rfl ?_)
      refine Lib.hid ?_
      refine wpList_store_mid rfl 43 _ _ rfl (w.heap.size + 1) 0 (u32s b0 b1 b2 b3 b4).toArray rfl rfl (hP1.out.there 0 5 (by simp)) sizeS5 (all_oneCell_toArray (u32s_one _ _ _ _ _)) ?_
      have hP2 := Lib.hid (whole_all hP1.out (vs := u32s b0 b1 b2 b3 b4) rfl)
      have hR2 := Lib.hid (hR1.out.far (c := w.heap.size + 1) (by omega) 0 (u32s b0 b1 b2 b3 b4))
      have hB2 := Lib.hid (below_store hB1.out (c := w.heap.size + 1) (by omega) (Nat.le_refl _) 0 (u32s b0 b1 b2 b3 b4))
      clear hP1 hR1 hB1 hD1 q0 q1
      rw [show ((u32s b0 b1 b2 b3 b4).toArray.toList) = u32s b0 b1 b2 b3 b4 from rfl]
      generalize World.setCells _ (w.heap.size + 1) 0 (u32s b0 b1 b2 b3 b4) = w3 at *
      go_wp2_with fail
      go_roundg (gk - 1)
      case measure => omega
      case rel => exact .inr (.inr ⟨by go_num, rfl, Lib.hid ⟨hP2.out, hR2.out, hB2.out⟩⟩)
    · go_wp2_with (with_reducible refine zLoad 43 _ rfl ?_)
      refine Lib.hid ?_
      refine wpList_load_mid rfl 43 _ rfl (w.heap.size + 1) 0 rfl (u32s b0 b1 b2 b3 b4) _ hrow.out.1.range Try.underlying43 rfl sizeS5 ?_
      go_wp2_with (with_reducible refine zStore 43 _ _ rfl ?_)
      refine Lib.hid ?_
      refine wpList_store_mid rfl 43 _ _ rfl w.heap.size 0 (u32s b0 b1 b2 b3 b4).toArray rfl rfl (hrow.out.2.1.there 0 5 (by simp)) sizeS5 (all_oneCell_toArray (u32s_one _ _ _ _ _)) ?_
      go_wp2_with fail
      have hfin := whole_all hrow.out.2.1 (vs := u32s b0 b1 b2 b3 b4) rfl
      exact bodyPost_ret (result_cell_tmp Try.results23 rfl rfl hfin.range Try.underlying43 rfl sizeS5) rfl ⟨rfl, below_store hrow.out.2.2 (Nat.le_refl _) (Nat.le_refl _) 0 _⟩
set_option maxRecDepth 100000 in
set_option maxHeartbeats 2000000 in
theorem pick_NN (a b : ByteArray) (w : World) (hda : ∀ W : World, Calls Try.prog 17 #[.string a] W fun x w' => x = .returned (.tuple #[.agg #[.int .u32 0, .int .u32 0, .int .u32 0, .int .u32 0, .int .u32 0], .int .i64 4]) ∧ Below W.heap.size W w') (hdb : ∀ W : World, Calls Try.prog 17 #[.string b] W fun x w' => x = .returned (.tuple #[.agg #[.int .u32 0, .int .u32 0, .int .u32 0, .int .u32 0, .int .u32 0], .int .i64 4]) ∧ Below W.heap.size W w')  :
    Calls Try.prog 23 #[.string a, .string b] w fun x w' => x = .returned (.tuple #[.agg (u32s 0 0 0 0 0).toArray, .int .i64 22]) ∧ Below w.heap.size w w' := by
  replace hda := Lib.hid hda
  replace hdb := Lib.hid hdb
  have ix0 := index2a a b
  have ix1 := index2b a b
  go_enter Try.func23, Try.ntmps23
  go_wp2_with fail
  have hR0 := (Whole.new w 43 (u32s 0 0 0 0 0)).alloc (.cells (u32s 0 0 0 0 0).toArray 43)
  have hP0 := Whole.new (w.alloc (.cells (u32s 0 0 0 0 0).toArray 43)) 43 (u32s 0 0 0 0 0)
  rw [show (w.alloc (.cells (u32s 0 0 0 0 0).toArray 43)).heap.size = w.heap.size + 1 from by simp] at hP0
  have hB0 := grewAlloc (grewAlloc (Below.refl _ w) (.cells (u32s 0 0 0 0 0).toArray 43)) (.cells (u32s 0 0 0 0 0).toArray 43)
  replace hR0 := Lib.hid hR0
  replace hP0 := Lib.hid hP0
  replace hB0 := Lib.hid hB0
  go_loopg [7, 16] 2 (fun ga x i wr => (2 ≤ ga ∧ i = .int .i64 0 ∧ x = .int .i64 22 ∧ Hid (Whole wr (w.heap.size + 1) 43 (u32s 0 0 0 0 0) ∧ Whole wr w.heap.size 43 (u32s 0 0 0 0 0) ∧ Below w.heap.size w wr)) ∨ (1 ≤ ga ∧ i = .int .i64 1 ∧ x = .int .i64 22 ∧ Hid (Whole wr (w.heap.size + 1) 43 (u32s 0 0 0 0 0) ∧ Whole wr w.heap.size 43 (u32s 0 0 0 0 0) ∧ Below w.heap.size w wr)) ∨ (i = .int .i64 2 ∧ x = .int .i64 22 ∧ Hid (Whole wr (w.heap.size + 1) 43 (u32s 0 0 0 0 0) ∧ Whole wr w.heap.size 43 (u32s 0 0 0 0 0) ∧ Below w.heap.size w wr)))
  case atStart => exact .inl ⟨by omega, rfl, rfl, Lib.hid ⟨hP0.out, hR0.out, hB0.out⟩⟩
  case round =>
    clear hR0 hP0 hB0
    rcases hrel with ⟨hg2, rfl, rfl, hrow⟩ | ⟨hg1, rfl, rfl, hrow⟩ | ⟨rfl, rfl, hrow⟩
    · skip
      go_wp2_with fail
      refine (hda.out _).mono ?_
      rintro ee w1 ⟨rfl, hb1⟩
      have hP1 := (hrow.out.1.below hb1 hrow.out.1.lt).alloc (.cells (u32s 0 0 0 0 0).toArray 43)
      have hR1 := (hrow.out.2.1.below hb1 hrow.out.2.1.lt).alloc (.cells (u32s 0 0 0 0 0).toArray 43)
      have hB1 := grewAlloc (grew hrow.out.2.2 hb1) (.cells (u32s 0 0 0 0 0).toArray 43)
      have hD1 := Whole.new w1 43 (u32s 0 0 0 0 0)
      clear hrow hb1
      have hP2 := Lib.hid hP1
      have hR2 := Lib.hid hR1
      have hB2 := Lib.hid hB1
      clear hP1 hR1 hB1 hD1
      go_wp2_with fail
      go_roundg (gk - 1)
      case measure => omega
      case rel => exact .inr (.inl ⟨by omega, by go_num, rfl, Lib.hid ⟨hP2.out, hR2.out, hB2.out⟩⟩)
    · skip
      go_wp2_with fail
      refine (hdb.out _).mono ?_
      rintro ee w1 ⟨rfl, hb1⟩
      have hP1 := (hrow.out.1.below hb1 hrow.out.1.lt).alloc (.cells (u32s 0 0 0 0 0).toArray 43)
      have hR1 := (hrow.out.2.1.below hb1 hrow.out.2.1.lt).alloc (.cells (u32s 0 0 0 0 0).toArray 43)
      have hB1 := grewAlloc (grew hrow.out.2.2 hb1) (.cells (u32s 0 0 0 0 0).toArray 43)
      have hD1 := Whole.new w1 43 (u32s 0 0 0 0 0)
      clear hrow hb1
      have hP2 := Lib.hid hP1
      have hR2 := Lib.hid hR1
      have hB2 := Lib.hid hB1
      clear hP1 hR1 hB1 hD1
      go_wp2_with fail
      go_roundg (gk - 1)
      case measure => omega
      case rel => exact .inr (.inr ⟨by go_num, rfl, Lib.hid ⟨hP2.out, hR2.out, hB2.out⟩⟩)
    · go_wp2_with (with_reducible refine zLoad 43 _ rfl ?_)
      refine Lib.hid ?_
      refine wpList_load_mid rfl 43 _ rfl (w.heap.size + 1) 0 rfl (u32s 0 0 0 0 0) _ hrow.out.1.range Try.underlying43 rfl sizeS5 ?_
      go_wp2_with (with_reducible refine zStore 43 _ _ rfl ?_)
      refine Lib.hid ?_
      refine wpList_store_mid rfl 43 _ _ rfl w.heap.size 0 (u32s 0 0 0 0 0).toArray rfl rfl (hrow.out.2.1.there 0 5 (by simp)) sizeS5 (all_oneCell_toArray (u32s_one _ _ _ _ _)) ?_
      go_wp2_with fail
      have hfin := whole_all hrow.out.2.1 (vs := u32s 0 0 0 0 0) rfl
      exact bodyPost_ret (result_cell_tmp Try.results23 rfl rfl hfin.range Try.underlying43 rfl sizeS5) rfl ⟨rfl, below_store hrow.out.2.2 (Nat.le_refl _) (Nat.le_refl _) 0 _⟩
set_option maxRecDepth 100000 in
set_option maxHeartbeats 2000000 in
theorem pick_NW (a b : ByteArray) {b0 b1 b2 b3 b4 : Nat} (w : World) (hda : ∀ W : World, Calls Try.prog 17 #[.string a] W fun x w' => x = .returned (.tuple #[.agg #[.int .u32 0, .int .u32 0, .int .u32 0, .int .u32 0, .int .u32 0], .int .i64 4]) ∧ Below W.heap.size W w') (hdb : ∀ W : World, Calls Try.prog 17 #[.string b] W fun x w' => x = .returned (.tuple #[.agg #[.int .u32 b0, .int .u32 b1, .int .u32 b2, .int .u32 b3, .int .u32 b4], .int .i64 0]) ∧ Below W.heap.size W w') (hb0 : b0 < 4294967296) (pb : ((b0 : Int) % 2 != 1) = true) :
    Calls Try.prog 23 #[.string a, .string b] w fun x w' => x = .returned (.tuple #[.agg (u32s 0 0 0 0 0).toArray, .int .i64 22]) ∧ Below w.heap.size w w' := by
  replace hda := Lib.hid hda
  replace hdb := Lib.hid hdb
  have ix0 := index2a a b
  have ix1 := index2b a b
  replace pb := Lib.hid pb
  go_enter Try.func23, Try.ntmps23
  go_wp2_with fail
  have hR0 := (Whole.new w 43 (u32s 0 0 0 0 0)).alloc (.cells (u32s 0 0 0 0 0).toArray 43)
  have hP0 := Whole.new (w.alloc (.cells (u32s 0 0 0 0 0).toArray 43)) 43 (u32s 0 0 0 0 0)
  rw [show (w.alloc (.cells (u32s 0 0 0 0 0).toArray 43)).heap.size = w.heap.size + 1 from by simp] at hP0
  have hB0 := grewAlloc (grewAlloc (Below.refl _ w) (.cells (u32s 0 0 0 0 0).toArray 43)) (.cells (u32s 0 0 0 0 0).toArray 43)
  replace hR0 := Lib.hid hR0
  replace hP0 := Lib.hid hP0
  replace hB0 := Lib.hid hB0
  go_loopg [7, 16] 2 (fun ga x i wr => (2 ≤ ga ∧ i = .int .i64 0 ∧ x = .int .i64 22 ∧ Hid (Whole wr (w.heap.size + 1) 43 (u32s 0 0 0 0 0) ∧ Whole wr w.heap.size 43 (u32s 0 0 0 0 0) ∧ Below w.heap.size w wr)) ∨ (1 ≤ ga ∧ i = .int .i64 1 ∧ x = .int .i64 22 ∧ Hid (Whole wr (w.heap.size + 1) 43 (u32s 0 0 0 0 0) ∧ Whole wr w.heap.size 43 (u32s 0 0 0 0 0) ∧ Below w.heap.size w wr)) ∨ (i = .int .i64 2 ∧ x = .int .i64 22 ∧ Hid (Whole wr (w.heap.size + 1) 43 (u32s 0 0 0 0 0) ∧ Whole wr w.heap.size 43 (u32s 0 0 0 0 0) ∧ Below w.heap.size w wr)))
  case atStart => exact .inl ⟨by omega, rfl, rfl, Lib.hid ⟨hP0.out, hR0.out, hB0.out⟩⟩
  case round =>
    clear hR0 hP0 hB0
    rcases hrel with ⟨hg2, rfl, rfl, hrow⟩ | ⟨hg1, rfl, rfl, hrow⟩ | ⟨rfl, rfl, hrow⟩
    · skip
      go_wp2_with fail
      refine (hda.out _).mono ?_
      rintro ee w1 ⟨rfl, hb1⟩
      have hP1 := (hrow.out.1.below hb1 hrow.out.1.lt).alloc (.cells (u32s 0 0 0 0 0).toArray 43)
      have hR1 := (hrow.out.2.1.below hb1 hrow.out.2.1.lt).alloc (.cells (u32s 0 0 0 0 0).toArray 43)
      have hB1 := grewAlloc (grew hrow.out.2.2 hb1) (.cells (u32s 0 0 0 0 0).toArray 43)
      have hD1 := Whole.new w1 43 (u32s 0 0 0 0 0)
      clear hrow hb1
      have hP2 := Lib.hid hP1
      have hR2 := Lib.hid hR1
      have hB2 := Lib.hid hB1
      clear hP1 hR1 hB1 hD1
      go_wp2_with fail
      go_roundg (gk - 1)
      case measure => omega
      case rel => exact .inr (.inl ⟨by omega, by go_num, rfl, Lib.hid ⟨hP2.out, hR2.out, hB2.out⟩⟩)
    · skip
      go_wp2_with fail
      refine (hdb.out _).mono ?_
      rintro ee w1 ⟨rfl, hb1⟩
      have hP1 := (hrow.out.1.below hb1 hrow.out.1.lt).alloc (.cells (u32s b0 b1 b2 b3 b4).toArray 43)
      have hR1 := (hrow.out.2.1.below hb1 hrow.out.2.1.lt).alloc (.cells (u32s b0 b1 b2 b3 b4).toArray 43)
      have hB1 := grewAlloc (grew hrow.out.2.2 hb1) (.cells (u32s b0 b1 b2 b3 b4).toArray 43)
      have hD1 := Whole.new w1 43 (u32s b0 b1 b2 b3 b4)
      clear hrow hb1
      go_wp2_with fail
      refine (place_any (b0 : Nat) b1 b2 b3 b4 _ (by omega) (by omega)).mono ?_
      rintro ee w2 ⟨rfl, hb2⟩
      replace hP1 := hP1.below hb2 hP1.lt
      replace hR1 := hR1.below hb2 hR1.lt
      replace hB1 := grew hB1 hb2
      replace hD1 := hD1.below hb2 hD1.lt
      clear hb2
      generalize w1.heap.size = db at *
      have px := pb.out
      have hP2 := Lib.hid hP1
      have hR2 := Lib.hid hR1
      have hB2 := Lib.hid hB1
      clear hP1 hR1 hB1 hD1
      go_wp2_with fail
      go_roundg (gk - 1)
      case measure => omega
      case rel => exact .inr (.inr ⟨by go_num, rfl, Lib.hid ⟨hP2.out, hR2.out, hB2.out⟩⟩)
    · go_wp2_with (with_reducible refine zLoad 43 _ rfl ?_)
      refine Lib.hid ?_
      refine wpList_load_mid rfl 43 _ rfl (w.heap.size + 1) 0 rfl (u32s 0 0 0 0 0) _ hrow.out.1.range Try.underlying43 rfl sizeS5 ?_
      go_wp2_with (with_reducible refine zStore 43 _ _ rfl ?_)
      refine Lib.hid ?_
      refine wpList_store_mid rfl 43 _ _ rfl w.heap.size 0 (u32s 0 0 0 0 0).toArray rfl rfl (hrow.out.2.1.there 0 5 (by simp)) sizeS5 (all_oneCell_toArray (u32s_one _ _ _ _ _)) ?_
      go_wp2_with fail
      have hfin := whole_all hrow.out.2.1 (vs := u32s 0 0 0 0 0) rfl
      exact bodyPost_ret (result_cell_tmp Try.results23 rfl rfl hfin.range Try.underlying43 rfl sizeS5) rfl ⟨rfl, below_store hrow.out.2.2 (Nat.le_refl _) (Nat.le_refl _) 0 _⟩
set_option maxRecDepth 100000 in
set_option maxHeartbeats 2000000 in
theorem pick_WN (a b : ByteArray) {a0 a1 a2 a3 a4 : Nat} (w : World) (hda : ∀ W : World, Calls Try.prog 17 #[.string a] W fun x w' => x = .returned (.tuple #[.agg #[.int .u32 a0, .int .u32 a1, .int .u32 a2, .int .u32 a3, .int .u32 a4], .int .i64 0]) ∧ Below W.heap.size W w') (hdb : ∀ W : World, Calls Try.prog 17 #[.string b] W fun x w' => x = .returned (.tuple #[.agg #[.int .u32 0, .int .u32 0, .int .u32 0, .int .u32 0, .int .u32 0], .int .i64 4]) ∧ Below W.heap.size W w') (ha0 : a0 < 4294967296) (pa : ((a0 : Int) % 2 != 0) = true) :
    Calls Try.prog 23 #[.string a, .string b] w fun x w' => x = .returned (.tuple #[.agg (u32s 0 0 0 0 0).toArray, .int .i64 22]) ∧ Below w.heap.size w w' := by
  replace hda := Lib.hid hda
  replace hdb := Lib.hid hdb
  have ix0 := index2a a b
  have ix1 := index2b a b
  replace pa := Lib.hid pa
  go_enter Try.func23, Try.ntmps23
  go_wp2_with fail
  have hR0 := (Whole.new w 43 (u32s 0 0 0 0 0)).alloc (.cells (u32s 0 0 0 0 0).toArray 43)
  have hP0 := Whole.new (w.alloc (.cells (u32s 0 0 0 0 0).toArray 43)) 43 (u32s 0 0 0 0 0)
  rw [show (w.alloc (.cells (u32s 0 0 0 0 0).toArray 43)).heap.size = w.heap.size + 1 from by simp] at hP0
  have hB0 := grewAlloc (grewAlloc (Below.refl _ w) (.cells (u32s 0 0 0 0 0).toArray 43)) (.cells (u32s 0 0 0 0 0).toArray 43)
  replace hR0 := Lib.hid hR0
  replace hP0 := Lib.hid hP0
  replace hB0 := Lib.hid hB0
  go_loopg [7, 16] 2 (fun ga x i wr => (2 ≤ ga ∧ i = .int .i64 0 ∧ x = .int .i64 22 ∧ Hid (Whole wr (w.heap.size + 1) 43 (u32s 0 0 0 0 0) ∧ Whole wr w.heap.size 43 (u32s 0 0 0 0 0) ∧ Below w.heap.size w wr)) ∨ (1 ≤ ga ∧ i = .int .i64 1 ∧ x = .int .i64 22 ∧ Hid (Whole wr (w.heap.size + 1) 43 (u32s 0 0 0 0 0) ∧ Whole wr w.heap.size 43 (u32s 0 0 0 0 0) ∧ Below w.heap.size w wr)) ∨ (i = .int .i64 2 ∧ x = .int .i64 22 ∧ Hid (Whole wr (w.heap.size + 1) 43 (u32s 0 0 0 0 0) ∧ Whole wr w.heap.size 43 (u32s 0 0 0 0 0) ∧ Below w.heap.size w wr)))
  case atStart => exact .inl ⟨by omega, rfl, rfl, Lib.hid ⟨hP0.out, hR0.out, hB0.out⟩⟩
  case round =>
    clear hR0 hP0 hB0
    rcases hrel with ⟨hg2, rfl, rfl, hrow⟩ | ⟨hg1, rfl, rfl, hrow⟩ | ⟨rfl, rfl, hrow⟩
    · skip
      go_wp2_with fail
      refine (hda.out _).mono ?_
      rintro ee w1 ⟨rfl, hb1⟩
      have hP1 := (hrow.out.1.below hb1 hrow.out.1.lt).alloc (.cells (u32s a0 a1 a2 a3 a4).toArray 43)
      have hR1 := (hrow.out.2.1.below hb1 hrow.out.2.1.lt).alloc (.cells (u32s a0 a1 a2 a3 a4).toArray 43)
      have hB1 := grewAlloc (grew hrow.out.2.2 hb1) (.cells (u32s a0 a1 a2 a3 a4).toArray 43)
      have hD1 := Whole.new w1 43 (u32s a0 a1 a2 a3 a4)
      clear hrow hb1
      go_wp2_with fail
      refine (place_any (a0 : Nat) a1 a2 a3 a4 _ (by omega) (by omega)).mono ?_
      rintro ee w2 ⟨rfl, hb2⟩
      replace hP1 := hP1.below hb2 hP1.lt
      replace hR1 := hR1.below hb2 hR1.lt
      replace hB1 := grew hB1 hb2
      replace hD1 := hD1.below hb2 hD1.lt
      clear hb2
      generalize w1.heap.size = db at *
      have px := pa.out
      have hP2 := Lib.hid hP1
      have hR2 := Lib.hid hR1
      have hB2 := Lib.hid hB1
      clear hP1 hR1 hB1 hD1
      go_wp2_with fail
      go_roundg (gk - 1)
      case measure => omega
      case rel => exact .inr (.inl ⟨by omega, by go_num, rfl, Lib.hid ⟨hP2.out, hR2.out, hB2.out⟩⟩)
    · skip
      go_wp2_with fail
      refine (hdb.out _).mono ?_
      rintro ee w1 ⟨rfl, hb1⟩
      have hP1 := (hrow.out.1.below hb1 hrow.out.1.lt).alloc (.cells (u32s 0 0 0 0 0).toArray 43)
      have hR1 := (hrow.out.2.1.below hb1 hrow.out.2.1.lt).alloc (.cells (u32s 0 0 0 0 0).toArray 43)
      have hB1 := grewAlloc (grew hrow.out.2.2 hb1) (.cells (u32s 0 0 0 0 0).toArray 43)
      have hD1 := Whole.new w1 43 (u32s 0 0 0 0 0)
      clear hrow hb1
      have hP2 := Lib.hid hP1
      have hR2 := Lib.hid hR1
      have hB2 := Lib.hid hB1
      clear hP1 hR1 hB1 hD1
      go_wp2_with fail
      go_roundg (gk - 1)
      case measure => omega
      case rel => exact .inr (.inr ⟨by go_num, rfl, Lib.hid ⟨hP2.out, hR2.out, hB2.out⟩⟩)
    · go_wp2_with (with_reducible refine zLoad 43 _ rfl ?_)
      refine Lib.hid ?_
      refine wpList_load_mid rfl 43 _ rfl (w.heap.size + 1) 0 rfl (u32s 0 0 0 0 0) _ hrow.out.1.range Try.underlying43 rfl sizeS5 ?_
      go_wp2_with (with_reducible refine zStore 43 _ _ rfl ?_)
      refine Lib.hid ?_
      refine wpList_store_mid rfl 43 _ _ rfl w.heap.size 0 (u32s 0 0 0 0 0).toArray rfl rfl (hrow.out.2.1.there 0 5 (by simp)) sizeS5 (all_oneCell_toArray (u32s_one _ _ _ _ _)) ?_
      go_wp2_with fail
      have hfin := whole_all hrow.out.2.1 (vs := u32s 0 0 0 0 0) rfl
      exact bodyPost_ret (result_cell_tmp Try.results23 rfl rfl hfin.range Try.underlying43 rfl sizeS5) rfl ⟨rfl, below_store hrow.out.2.2 (Nat.le_refl _) (Nat.le_refl _) 0 _⟩
set_option maxRecDepth 100000 in
set_option maxHeartbeats 2000000 in
theorem pick_WW (a b : ByteArray) {a0 a1 a2 a3 a4 b0 b1 b2 b3 b4 : Nat} (w : World) (hda : ∀ W : World, Calls Try.prog 17 #[.string a] W fun x w' => x = .returned (.tuple #[.agg #[.int .u32 a0, .int .u32 a1, .int .u32 a2, .int .u32 a3, .int .u32 a4], .int .i64 0]) ∧ Below W.heap.size W w') (hdb : ∀ W : World, Calls Try.prog 17 #[.string b] W fun x w' => x = .returned (.tuple #[.agg #[.int .u32 b0, .int .u32 b1, .int .u32 b2, .int .u32 b3, .int .u32 b4], .int .i64 0]) ∧ Below W.heap.size W w') (ha0 : a0 < 4294967296) (pa : ((a0 : Int) % 2 != 0) = true) (hb0 : b0 < 4294967296) (pb : ((b0 : Int) % 2 != 1) = true) :
    Calls Try.prog 23 #[.string a, .string b] w fun x w' => x = .returned (.tuple #[.agg (u32s 0 0 0 0 0).toArray, .int .i64 22]) ∧ Below w.heap.size w w' := by
  replace hda := Lib.hid hda
  replace hdb := Lib.hid hdb
  have ix0 := index2a a b
  have ix1 := index2b a b
  replace pa := Lib.hid pa
  replace pb := Lib.hid pb
  go_enter Try.func23, Try.ntmps23
  go_wp2_with fail
  have hR0 := (Whole.new w 43 (u32s 0 0 0 0 0)).alloc (.cells (u32s 0 0 0 0 0).toArray 43)
  have hP0 := Whole.new (w.alloc (.cells (u32s 0 0 0 0 0).toArray 43)) 43 (u32s 0 0 0 0 0)
  rw [show (w.alloc (.cells (u32s 0 0 0 0 0).toArray 43)).heap.size = w.heap.size + 1 from by simp] at hP0
  have hB0 := grewAlloc (grewAlloc (Below.refl _ w) (.cells (u32s 0 0 0 0 0).toArray 43)) (.cells (u32s 0 0 0 0 0).toArray 43)
  replace hR0 := Lib.hid hR0
  replace hP0 := Lib.hid hP0
  replace hB0 := Lib.hid hB0
  go_loopg [7, 16] 2 (fun ga x i wr => (2 ≤ ga ∧ i = .int .i64 0 ∧ x = .int .i64 22 ∧ Hid (Whole wr (w.heap.size + 1) 43 (u32s 0 0 0 0 0) ∧ Whole wr w.heap.size 43 (u32s 0 0 0 0 0) ∧ Below w.heap.size w wr)) ∨ (1 ≤ ga ∧ i = .int .i64 1 ∧ x = .int .i64 22 ∧ Hid (Whole wr (w.heap.size + 1) 43 (u32s 0 0 0 0 0) ∧ Whole wr w.heap.size 43 (u32s 0 0 0 0 0) ∧ Below w.heap.size w wr)) ∨ (i = .int .i64 2 ∧ x = .int .i64 22 ∧ Hid (Whole wr (w.heap.size + 1) 43 (u32s 0 0 0 0 0) ∧ Whole wr w.heap.size 43 (u32s 0 0 0 0 0) ∧ Below w.heap.size w wr)))
  case atStart => exact .inl ⟨by omega, rfl, rfl, Lib.hid ⟨hP0.out, hR0.out, hB0.out⟩⟩
  case round =>
    clear hR0 hP0 hB0
    rcases hrel with ⟨hg2, rfl, rfl, hrow⟩ | ⟨hg1, rfl, rfl, hrow⟩ | ⟨rfl, rfl, hrow⟩
    · skip
      go_wp2_with fail
      refine (hda.out _).mono ?_
      rintro ee w1 ⟨rfl, hb1⟩
      have hP1 := (hrow.out.1.below hb1 hrow.out.1.lt).alloc (.cells (u32s a0 a1 a2 a3 a4).toArray 43)
      have hR1 := (hrow.out.2.1.below hb1 hrow.out.2.1.lt).alloc (.cells (u32s a0 a1 a2 a3 a4).toArray 43)
      have hB1 := grewAlloc (grew hrow.out.2.2 hb1) (.cells (u32s a0 a1 a2 a3 a4).toArray 43)
      have hD1 := Whole.new w1 43 (u32s a0 a1 a2 a3 a4)
      clear hrow hb1
      go_wp2_with fail
      refine (place_any (a0 : Nat) a1 a2 a3 a4 _ (by omega) (by omega)).mono ?_
      rintro ee w2 ⟨rfl, hb2⟩
      replace hP1 := hP1.below hb2 hP1.lt
      replace hR1 := hR1.below hb2 hR1.lt
      replace hB1 := grew hB1 hb2
      replace hD1 := hD1.below hb2 hD1.lt
      clear hb2
      generalize w1.heap.size = db at *
      have px := pa.out
      have hP2 := Lib.hid hP1
      have hR2 := Lib.hid hR1
      have hB2 := Lib.hid hB1
      clear hP1 hR1 hB1 hD1
      go_wp2_with fail
      go_roundg (gk - 1)
      case measure => omega
      case rel => exact .inr (.inl ⟨by omega, by go_num, rfl, Lib.hid ⟨hP2.out, hR2.out, hB2.out⟩⟩)
    · skip
      go_wp2_with fail
      refine (hdb.out _).mono ?_
      rintro ee w1 ⟨rfl, hb1⟩
      have hP1 := (hrow.out.1.below hb1 hrow.out.1.lt).alloc (.cells (u32s b0 b1 b2 b3 b4).toArray 43)
      have hR1 := (hrow.out.2.1.below hb1 hrow.out.2.1.lt).alloc (.cells (u32s b0 b1 b2 b3 b4).toArray 43)
      have hB1 := grewAlloc (grew hrow.out.2.2 hb1) (.cells (u32s b0 b1 b2 b3 b4).toArray 43)
      have hD1 := Whole.new w1 43 (u32s b0 b1 b2 b3 b4)
      clear hrow hb1
      go_wp2_with fail
      refine (place_any (b0 : Nat) b1 b2 b3 b4 _ (by omega) (by omega)).mono ?_
      rintro ee w2 ⟨rfl, hb2⟩
      replace hP1 := hP1.below hb2 hP1.lt
      replace hR1 := hR1.below hb2 hR1.lt
      replace hB1 := grew hB1 hb2
      replace hD1 := hD1.below hb2 hD1.lt
      clear hb2
      generalize w1.heap.size = db at *
      have px := pb.out
      have hP2 := Lib.hid hP1
      have hR2 := Lib.hid hR1
      have hB2 := Lib.hid hB1
      clear hP1 hR1 hB1 hD1
      go_wp2_with fail
      go_roundg (gk - 1)
      case measure => omega
      case rel => exact .inr (.inr ⟨by go_num, rfl, Lib.hid ⟨hP2.out, hR2.out, hB2.out⟩⟩)
    · go_wp2_with (with_reducible refine zLoad 43 _ rfl ?_)
      refine Lib.hid ?_
      refine wpList_load_mid rfl 43 _ rfl (w.heap.size + 1) 0 rfl (u32s 0 0 0 0 0) _ hrow.out.1.range Try.underlying43 rfl sizeS5 ?_
      go_wp2_with (with_reducible refine zStore 43 _ _ rfl ?_)
      refine Lib.hid ?_
      refine wpList_store_mid rfl 43 _ _ rfl w.heap.size 0 (u32s 0 0 0 0 0).toArray rfl rfl (hrow.out.2.1.there 0 5 (by simp)) sizeS5 (all_oneCell_toArray (u32s_one _ _ _ _ _)) ?_
      go_wp2_with fail
      have hfin := whole_all hrow.out.2.1 (vs := u32s 0 0 0 0 0) rfl
      exact bodyPost_ret (result_cell_tmp Try.results23 rfl rfl hfin.range Try.underlying43 rfl sizeS5) rfl ⟨rfl, below_store hrow.out.2.2 (Nat.le_refl _) (Nat.le_refl _) 0 _⟩
end Go.Proofs.Ytkmlmondhmpkkaa.W

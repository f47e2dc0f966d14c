/- Turns of sectors that come in, opened; the law's turned: of sectors of 64 bytes sectors of 64 bytes. Written by wip/tools/genld.py. -/
import Derived.Test.YtlgoepbfdldgnaaDoorSegP
import Derived.Test.YtlgoepbfdldgnaaDoorOpenBytes
import Derived.Test.YtlgoepbfdldgnaaDoorCopyStr
import Derived.BigRegion
section
namespace Go.Proofs.YtlgoepbfdldgnaaDoor.W
open Go.ChangeShapes Go.WideShapes Go.ChangeAt Go.RowKit Go.Sort
open Go.Proofs.YtlgoepbfdldgnaaDoor.M Go.Proofs.YtlgoepbfdldgnaaDoor.D Go.Proofs.YtlgoepbfdldgnaaDoor.Z
set_option linter.unusedVariables false

/-- Sectors of 64 bytes. -/
structure Sec64 (X : List ByteArray) : Prop where
  len : X.length = 16
  each : ∀ y ∈ X, y.size = 64
theorem Sec64.set {X : List ByteArray} (h : Sec64 X) (k : Nat) (y : ByteArray) (hy : y.size = 64) : Sec64 (X.set k y) := by
  refine ⟨by rw [List.length_set, h.len], fun z hz => ?_⟩
  rcases List.mem_or_eq_of_mem_set hz with e | e
  · exact h.each z e
  · rw [e, hy]
theorem Sec64.at_ {X : List ByteArray} (h : Sec64 X) {k : Nat} {y : ByteArray} (hy : X[k]? = some y) : y.size = 64 := h.each y (List.mem_of_getElem? hy)
theorem rowS16 {X : List ByteArray} (h : Sec64 X) : (rowS X).toArray.size = 16 := by rw [List.size_toArray, rowS_len, h.len]
theorem Sec64.blank : Sec64 blankS := ⟨rfl, fun y hy => by
  unfold blankS at hy
  rw [List.eq_of_mem_replicate hy]
  rfl⟩
theorem Sec64.put {X : List ByteArray} (h : Sec64 X) (st c at_ : Nat) (p : Nat → ByteArray) (hp : ∀ i, (p i).size = 52) : ∀ k, at_ + k ≤ 16 → Sec64 (putP X st c at_ p k) := by
  intro k hk
  refine ⟨by rw [putP_len, h.len], fun z hz => ?_⟩
  obtain ⟨i, hi, e⟩ := List.mem_iff_getElem.1 hz
  have e2 : (putP X st c at_ p k)[i]? = some z := by rw [List.getElem?_eq_getElem hi, e]
  rw [putP_at _ _ _ _ _ _ _ (by rw [h.len]; exact hk)] at e2
  split at e2
  · cases e2
    unfold sealP
    rw [B_size, sealL_len]
    have := hp (i - at_)
    rw [Array.length_toList, show (p (i - at_)).data.size = (p (i - at_)).size from rfl, this]
  · exact h.each z (List.mem_of_getElem? e2)
theorem Sec64.made (a g s b : Nat) : Sec64 (putP blankS s 1 0 (fun i => B (pcL (headerL a g s b) i)) 1) := Sec64.blank.put _ _ _ _ (fun i => by rw [B_size, pcL_len]) 1 (by decide)
theorem Sec64.apd {X : List ByteArray} {s : Nat} {fs : List (Int × ByteArray)} {f : Int × ByteArray} (h : Sec64 X) : Sec64 (apdX X s fs f) := by
  unfold apdX
  split
  · exact h
  · split
    · exact h
    · unfold moreX
      exact h.put _ _ _ _ (fun i => by rw [B_size, pcL_len]) _ (by omega)
/-- The load of the sector that is sealed anew. -/
def ldOp : Oper := { dst := some 79, op := .load 9 (.tmp 78), type := 9, pos := "law.go:116", after := #[{ on := 9, ground := .data }], guard := none }
theorem ldOp_eq : ({ dst := some 79, op := .load 9 (.tmp 78), type := 9, pos := "law.go:116", after := #[{ on := 9, ground := .data }], guard := none } : Oper) = ldOp := rfl
attribute [local go_sem] ldOp
set_option maxRecDepth 100000 in
set_option maxHeartbeats 4000000 in
theorem turned_out0 (st : Nat) (ta tf tc tb : Int) (X : List ByteArray) (w : World) (h64 : Sec64 X) (h0 : ta < 0) :
    Calls Tryd.prog 28 #[.agg #[.int .i64 ta, .int .i64 tf, .int .u32 (st : Int), .int .i64 tc, .int .i64 tb], .agg (rowS X).toArray] w fun e w' => ∃ X', e = .returned (.agg (rowS X').toArray) ∧ Sec64 X' ∧ Below w.heap.size w w' := by
  obtain ⟨V, hV, hTb, hX, hR, hB⟩ := three_boxes w 61 39 39 [.int .i64 ta, .int .i64 tf, .int .u32 (st : Int), .int .i64 tc, .int .i64 tb] (rowS X) cells16
  have t0 : V.cell? ⟨w.heap.size, 0, none⟩ = some (.int .i64 ta) := hTb.cell 0
  have t1 : V.cell? ⟨w.heap.size, 1, none⟩ = some (.int .i64 tf) := hTb.cell 1
  have t2 : V.cell? ⟨w.heap.size, 2, none⟩ = some (.int .u32 (st : Int)) := hTb.cell 2
  have t3 : V.cell? ⟨w.heap.size, 3, none⟩ = some (.int .i64 tc) := hTb.cell 3
  have t4 : V.cell? ⟨w.heap.size, 4, none⟩ = some (.int .i64 tb) := hTb.cell 4
  replace hX := Lib.hid hX
  replace hR := Lib.hid hR
  replace hB := Lib.hid hB
  go_enter Tryd.func28, Tryd.ntmps28
  go_upto_region 1 with fail
  rw [← show V = _ from hV]
  clear hV
  go_wp2_with (with_reducible refine zLoad 39 _ rfl ?_)
  refine Lib.hid ?_
  refine wpList_load_mid rfl 39 _ rfl (w.heap.size + 1) 0 rfl (rowS X) _ hX.out.range Tryd.underlying39 rfl (by rw [rowS_len, h64.len]; exact sizeSec) ?_
  go_wp2_with (with_reducible refine zStore 39 _ _ rfl ?_)
  refine Lib.hid ?_
  refine wpList_store_mid rfl 39 _ _ rfl (w.heap.size + 1 + 1) 0 (rowS X).toArray rfl rfl (by rw [rowS16 h64]; exact hR.out.there 0 16 (Nat.le_refl 16)) (by rw [rowS16 h64]; exact sizeSec) (all_oneCell_toArray (rowS_one _)) ?_
  go_wp2_with fail
  have hfin := whole_all hR.out (vs := rowS X) (by rw [rowS_len, h64.len]; rfl)
  exact bodyPost_ret (result_cell Tryd.results28 rfl hfin.range Tryd.underlying39 rfl (by rw [rowS_len, h64.len]; exact sizeSec)) rfl ⟨X, rfl, h64, below_store hB.out (by omega) (Nat.le_refl _) 0 _⟩
set_option maxRecDepth 100000 in
set_option maxHeartbeats 4000000 in
theorem turned_out1 (st : Nat) (ta tf tc tb : Int) (X : List ByteArray) (w : World) (h64 : Sec64 X) (n0 : ¬ ta < 0) (h0 : 15 < ta) :
    Calls Tryd.prog 28 #[.agg #[.int .i64 ta, .int .i64 tf, .int .u32 (st : Int), .int .i64 tc, .int .i64 tb], .agg (rowS X).toArray] w fun e w' => ∃ X', e = .returned (.agg (rowS X').toArray) ∧ Sec64 X' ∧ Below w.heap.size w w' := by
  obtain ⟨V, hV, hTb, hX, hR, hB⟩ := three_boxes w 61 39 39 [.int .i64 ta, .int .i64 tf, .int .u32 (st : Int), .int .i64 tc, .int .i64 tb] (rowS X) cells16
  have t0 : V.cell? ⟨w.heap.size, 0, none⟩ = some (.int .i64 ta) := hTb.cell 0
  have t1 : V.cell? ⟨w.heap.size, 1, none⟩ = some (.int .i64 tf) := hTb.cell 1
  have t2 : V.cell? ⟨w.heap.size, 2, none⟩ = some (.int .u32 (st : Int)) := hTb.cell 2
  have t3 : V.cell? ⟨w.heap.size, 3, none⟩ = some (.int .i64 tc) := hTb.cell 3
  have t4 : V.cell? ⟨w.heap.size, 4, none⟩ = some (.int .i64 tb) := hTb.cell 4
  replace hX := Lib.hid hX
  replace hR := Lib.hid hR
  replace hB := Lib.hid hB
  go_enter Tryd.func28, Tryd.ntmps28
  go_upto_region 1 with fail
  rw [← show V = _ from hV]
  clear hV
  go_wp2_with (with_reducible refine zLoad 39 _ rfl ?_)
  refine Lib.hid ?_
  refine wpList_load_mid rfl 39 _ rfl (w.heap.size + 1) 0 rfl (rowS X) _ hX.out.range Tryd.underlying39 rfl (by rw [rowS_len, h64.len]; exact sizeSec) ?_
  go_wp2_with (with_reducible refine zStore 39 _ _ rfl ?_)
  refine Lib.hid ?_
  refine wpList_store_mid rfl 39 _ _ rfl (w.heap.size + 1 + 1) 0 (rowS X).toArray rfl rfl (by rw [rowS16 h64]; exact hR.out.there 0 16 (Nat.le_refl 16)) (by rw [rowS16 h64]; exact sizeSec) (all_oneCell_toArray (rowS_one _)) ?_
  go_wp2_with fail
  have hfin := whole_all hR.out (vs := rowS X) (by rw [rowS_len, h64.len]; rfl)
  exact bodyPost_ret (result_cell Tryd.results28 rfl hfin.range Tryd.underlying39 rfl (by rw [rowS_len, h64.len]; exact sizeSec)) rfl ⟨X, rfl, h64, below_store hB.out (by omega) (Nat.le_refl _) 0 _⟩
set_option maxRecDepth 100000 in
set_option maxHeartbeats 4000000 in
theorem turned_out2 (st : Nat) (ta tf tc tb : Int) (X : List ByteArray) (w : World) (h64 : Sec64 X) (n0 : ¬ ta < 0) (n1 : ¬ 15 < ta) (h0 : tf < 0) :
    Calls Tryd.prog 28 #[.agg #[.int .i64 ta, .int .i64 tf, .int .u32 (st : Int), .int .i64 tc, .int .i64 tb], .agg (rowS X).toArray] w fun e w' => ∃ X', e = .returned (.agg (rowS X').toArray) ∧ Sec64 X' ∧ Below w.heap.size w w' := by
  obtain ⟨V, hV, hTb, hX, hR, hB⟩ := three_boxes w 61 39 39 [.int .i64 ta, .int .i64 tf, .int .u32 (st : Int), .int .i64 tc, .int .i64 tb] (rowS X) cells16
  have t0 : V.cell? ⟨w.heap.size, 0, none⟩ = some (.int .i64 ta) := hTb.cell 0
  have t1 : V.cell? ⟨w.heap.size, 1, none⟩ = some (.int .i64 tf) := hTb.cell 1
  have t2 : V.cell? ⟨w.heap.size, 2, none⟩ = some (.int .u32 (st : Int)) := hTb.cell 2
  have t3 : V.cell? ⟨w.heap.size, 3, none⟩ = some (.int .i64 tc) := hTb.cell 3
  have t4 : V.cell? ⟨w.heap.size, 4, none⟩ = some (.int .i64 tb) := hTb.cell 4
  replace hX := Lib.hid hX
  replace hR := Lib.hid hR
  replace hB := Lib.hid hB
  go_enter Tryd.func28, Tryd.ntmps28
  go_upto_region 1 with fail
  rw [← show V = _ from hV]
  clear hV
  go_wp2_with (with_reducible refine zLoad 39 _ rfl ?_)
  refine Lib.hid ?_
  refine wpList_load_mid rfl 39 _ rfl (w.heap.size + 1) 0 rfl (rowS X) _ hX.out.range Tryd.underlying39 rfl (by rw [rowS_len, h64.len]; exact sizeSec) ?_
  go_wp2_with (with_reducible refine zStore 39 _ _ rfl ?_)
  refine Lib.hid ?_
  refine wpList_store_mid rfl 39 _ _ rfl (w.heap.size + 1 + 1) 0 (rowS X).toArray rfl rfl (by rw [rowS16 h64]; exact hR.out.there 0 16 (Nat.le_refl 16)) (by rw [rowS16 h64]; exact sizeSec) (all_oneCell_toArray (rowS_one _)) ?_
  go_wp2_with fail
  have hfin := whole_all hR.out (vs := rowS X) (by rw [rowS_len, h64.len]; rfl)
  exact bodyPost_ret (result_cell Tryd.results28 rfl hfin.range Tryd.underlying39 rfl (by rw [rowS_len, h64.len]; exact sizeSec)) rfl ⟨X, rfl, h64, below_store hB.out (by omega) (Nat.le_refl _) 0 _⟩
set_option maxRecDepth 100000 in
set_option maxHeartbeats 4000000 in
theorem turned_out3 (st : Nat) (ta tf tc tb : Int) (X : List ByteArray) (w : World) (h64 : Sec64 X) (n0 : ¬ ta < 0) (n1 : ¬ 15 < ta) (n2 : ¬ tf < 0) (h0 : 15 < tf) :
    Calls Tryd.prog 28 #[.agg #[.int .i64 ta, .int .i64 tf, .int .u32 (st : Int), .int .i64 tc, .int .i64 tb], .agg (rowS X).toArray] w fun e w' => ∃ X', e = .returned (.agg (rowS X').toArray) ∧ Sec64 X' ∧ Below w.heap.size w w' := by
  obtain ⟨V, hV, hTb, hX, hR, hB⟩ := three_boxes w 61 39 39 [.int .i64 ta, .int .i64 tf, .int .u32 (st : Int), .int .i64 tc, .int .i64 tb] (rowS X) cells16
  have t0 : V.cell? ⟨w.heap.size, 0, none⟩ = some (.int .i64 ta) := hTb.cell 0
  have t1 : V.cell? ⟨w.heap.size, 1, none⟩ = some (.int .i64 tf) := hTb.cell 1
  have t2 : V.cell? ⟨w.heap.size, 2, none⟩ = some (.int .u32 (st : Int)) := hTb.cell 2
  have t3 : V.cell? ⟨w.heap.size, 3, none⟩ = some (.int .i64 tc) := hTb.cell 3
  have t4 : V.cell? ⟨w.heap.size, 4, none⟩ = some (.int .i64 tb) := hTb.cell 4
  replace hX := Lib.hid hX
  replace hR := Lib.hid hR
  replace hB := Lib.hid hB
  go_enter Tryd.func28, Tryd.ntmps28
  go_upto_region 1 with fail
  rw [← show V = _ from hV]
  clear hV
  go_wp2_with (with_reducible refine zLoad 39 _ rfl ?_)
  refine Lib.hid ?_
  refine wpList_load_mid rfl 39 _ rfl (w.heap.size + 1) 0 rfl (rowS X) _ hX.out.range Tryd.underlying39 rfl (by rw [rowS_len, h64.len]; exact sizeSec) ?_
  go_wp2_with (with_reducible refine zStore 39 _ _ rfl ?_)
  refine Lib.hid ?_
  refine wpList_store_mid rfl 39 _ _ rfl (w.heap.size + 1 + 1) 0 (rowS X).toArray rfl rfl (by rw [rowS16 h64]; exact hR.out.there 0 16 (Nat.le_refl 16)) (by rw [rowS16 h64]; exact sizeSec) (all_oneCell_toArray (rowS_one _)) ?_
  go_wp2_with fail
  have hfin := whole_all hR.out (vs := rowS X) (by rw [rowS_len, h64.len]; rfl)
  exact bodyPost_ret (result_cell Tryd.results28 rfl hfin.range Tryd.underlying39 rfl (by rw [rowS_len, h64.len]; exact sizeSec)) rfl ⟨X, rfl, h64, below_store hB.out (by omega) (Nat.le_refl _) 0 _⟩
set_option maxRecDepth 100000 in
set_option maxHeartbeats 4000000 in
theorem turned_no00 (st : Nat) (ta tf tc tb : Int) (X : List ByteArray) (w : World) (h64 : Sec64 X) (n0 : ¬ ta < 0) (n1 : ¬ 15 < ta) (n2 : ¬ tf < 0) (n3 : ¬ 15 < tf) (hb : tb < 0) (hc : tc < 1) :
    Calls Tryd.prog 28 #[.agg #[.int .i64 ta, .int .i64 tf, .int .u32 (st : Int), .int .i64 tc, .int .i64 tb], .agg (rowS X).toArray] w fun e w' => ∃ X', e = .returned (.agg (rowS X').toArray) ∧ Sec64 X' ∧ Below w.heap.size w w' := by
  obtain ⟨V, hV, hTb, hX, hR, hB⟩ := three_boxes w 61 39 39 [.int .i64 ta, .int .i64 tf, .int .u32 (st : Int), .int .i64 tc, .int .i64 tb] (rowS X) cells16
  have t0 : V.cell? ⟨w.heap.size, 0, none⟩ = some (.int .i64 ta) := hTb.cell 0
  have t1 : V.cell? ⟨w.heap.size, 1, none⟩ = some (.int .i64 tf) := hTb.cell 1
  have t2 : V.cell? ⟨w.heap.size, 2, none⟩ = some (.int .u32 (st : Int)) := hTb.cell 2
  have t3 : V.cell? ⟨w.heap.size, 3, none⟩ = some (.int .i64 tc) := hTb.cell 3
  have t4 : V.cell? ⟨w.heap.size, 4, none⟩ = some (.int .i64 tb) := hTb.cell 4
  replace hX := Lib.hid hX
  replace hR := Lib.hid hR
  replace hB := Lib.hid hB
  go_enter Tryd.func28, Tryd.ntmps28
  go_upto_region 1 with fail
  rw [← show V = _ from hV]
  clear hV
  go_wp2_with (with_reducible refine zLoad 39 _ rfl ?_)
  refine Lib.hid ?_
  refine wpList_load_mid rfl 39 _ rfl (w.heap.size + 1) 0 rfl (rowS X) _ hX.out.range Tryd.underlying39 rfl (by rw [rowS_len, h64.len]; exact sizeSec) ?_
  go_wp2_with (with_reducible refine zStore 39 _ _ rfl ?_)
  refine Lib.hid ?_
  refine wpList_store_mid rfl 39 _ _ rfl (w.heap.size + 1 + 1) 0 (rowS X).toArray rfl rfl (by rw [rowS16 h64]; exact hR.out.there 0 16 (Nat.le_refl 16)) (by rw [rowS16 h64]; exact sizeSec) (all_oneCell_toArray (rowS_one _)) ?_
  go_wp2_with fail
  have hfin := whole_all hR.out (vs := rowS X) (by rw [rowS_len, h64.len]; rfl)
  exact bodyPost_ret (result_cell Tryd.results28 rfl hfin.range Tryd.underlying39 rfl (by rw [rowS_len, h64.len]; exact sizeSec)) rfl ⟨X, rfl, h64, below_store hB.out (by omega) (Nat.le_refl _) 0 _⟩
set_option maxRecDepth 100000 in
set_option maxHeartbeats 4000000 in
theorem turned_no01 (st : Nat) (ta tf tc tb : Int) (X : List ByteArray) (w : World) (h64 : Sec64 X) (n0 : ¬ ta < 0) (n1 : ¬ 15 < ta) (n2 : ¬ tf < 0) (n3 : ¬ 15 < tf) (hb : tb < 0) (n5 : ¬ tc < 1) (hc : 65535 < tc) :
    Calls Tryd.prog 28 #[.agg #[.int .i64 ta, .int .i64 tf, .int .u32 (st : Int), .int .i64 tc, .int .i64 tb], .agg (rowS X).toArray] w fun e w' => ∃ X', e = .returned (.agg (rowS X').toArray) ∧ Sec64 X' ∧ Below w.heap.size w w' := by
  obtain ⟨V, hV, hTb, hX, hR, hB⟩ := three_boxes w 61 39 39 [.int .i64 ta, .int .i64 tf, .int .u32 (st : Int), .int .i64 tc, .int .i64 tb] (rowS X) cells16
  have t0 : V.cell? ⟨w.heap.size, 0, none⟩ = some (.int .i64 ta) := hTb.cell 0
  have t1 : V.cell? ⟨w.heap.size, 1, none⟩ = some (.int .i64 tf) := hTb.cell 1
  have t2 : V.cell? ⟨w.heap.size, 2, none⟩ = some (.int .u32 (st : Int)) := hTb.cell 2
  have t3 : V.cell? ⟨w.heap.size, 3, none⟩ = some (.int .i64 tc) := hTb.cell 3
  have t4 : V.cell? ⟨w.heap.size, 4, none⟩ = some (.int .i64 tb) := hTb.cell 4
  replace hX := Lib.hid hX
  replace hR := Lib.hid hR
  replace hB := Lib.hid hB
  go_enter Tryd.func28, Tryd.ntmps28
  go_upto_region 1 with fail
  rw [← show V = _ from hV]
  clear hV
  go_wp2_with (with_reducible refine zLoad 39 _ rfl ?_)
  refine Lib.hid ?_
  refine wpList_load_mid rfl 39 _ rfl (w.heap.size + 1) 0 rfl (rowS X) _ hX.out.range Tryd.underlying39 rfl (by rw [rowS_len, h64.len]; exact sizeSec) ?_
  go_wp2_with (with_reducible refine zStore 39 _ _ rfl ?_)
  refine Lib.hid ?_
  refine wpList_store_mid rfl 39 _ _ rfl (w.heap.size + 1 + 1) 0 (rowS X).toArray rfl rfl (by rw [rowS16 h64]; exact hR.out.there 0 16 (Nat.le_refl 16)) (by rw [rowS16 h64]; exact sizeSec) (all_oneCell_toArray (rowS_one _)) ?_
  go_wp2_with fail
  have hfin := whole_all hR.out (vs := rowS X) (by rw [rowS_len, h64.len]; rfl)
  exact bodyPost_ret (result_cell Tryd.results28 rfl hfin.range Tryd.underlying39 rfl (by rw [rowS_len, h64.len]; exact sizeSec)) rfl ⟨X, rfl, h64, below_store hB.out (by omega) (Nat.le_refl _) 0 _⟩
set_option maxRecDepth 100000 in
set_option maxHeartbeats 4000000 in
theorem turned_no10 (st : Nat) (ta tf tc tb : Int) (X : List ByteArray) (w : World) (h64 : Sec64 X) (n0 : ¬ ta < 0) (n1 : ¬ 15 < ta) (n2 : ¬ tf < 0) (n3 : ¬ 15 < tf) (n4 : ¬ tb < 0) (hb : 512 ≤ tb) (hc : tc < 1) :
    Calls Tryd.prog 28 #[.agg #[.int .i64 ta, .int .i64 tf, .int .u32 (st : Int), .int .i64 tc, .int .i64 tb], .agg (rowS X).toArray] w fun e w' => ∃ X', e = .returned (.agg (rowS X').toArray) ∧ Sec64 X' ∧ Below w.heap.size w w' := by
  obtain ⟨V, hV, hTb, hX, hR, hB⟩ := three_boxes w 61 39 39 [.int .i64 ta, .int .i64 tf, .int .u32 (st : Int), .int .i64 tc, .int .i64 tb] (rowS X) cells16
  have t0 : V.cell? ⟨w.heap.size, 0, none⟩ = some (.int .i64 ta) := hTb.cell 0
  have t1 : V.cell? ⟨w.heap.size, 1, none⟩ = some (.int .i64 tf) := hTb.cell 1
  have t2 : V.cell? ⟨w.heap.size, 2, none⟩ = some (.int .u32 (st : Int)) := hTb.cell 2
  have t3 : V.cell? ⟨w.heap.size, 3, none⟩ = some (.int .i64 tc) := hTb.cell 3
  have t4 : V.cell? ⟨w.heap.size, 4, none⟩ = some (.int .i64 tb) := hTb.cell 4
  replace hX := Lib.hid hX
  replace hR := Lib.hid hR
  replace hB := Lib.hid hB
  go_enter Tryd.func28, Tryd.ntmps28
  go_upto_region 1 with fail
  rw [← show V = _ from hV]
  clear hV
  go_wp2_with (with_reducible refine zLoad 39 _ rfl ?_)
  refine Lib.hid ?_
  refine wpList_load_mid rfl 39 _ rfl (w.heap.size + 1) 0 rfl (rowS X) _ hX.out.range Tryd.underlying39 rfl (by rw [rowS_len, h64.len]; exact sizeSec) ?_
  go_wp2_with (with_reducible refine zStore 39 _ _ rfl ?_)
  refine Lib.hid ?_
  refine wpList_store_mid rfl 39 _ _ rfl (w.heap.size + 1 + 1) 0 (rowS X).toArray rfl rfl (by rw [rowS16 h64]; exact hR.out.there 0 16 (Nat.le_refl 16)) (by rw [rowS16 h64]; exact sizeSec) (all_oneCell_toArray (rowS_one _)) ?_
  go_wp2_with fail
  have hfin := whole_all hR.out (vs := rowS X) (by rw [rowS_len, h64.len]; rfl)
  exact bodyPost_ret (result_cell Tryd.results28 rfl hfin.range Tryd.underlying39 rfl (by rw [rowS_len, h64.len]; exact sizeSec)) rfl ⟨X, rfl, h64, below_store hB.out (by omega) (Nat.le_refl _) 0 _⟩
set_option maxRecDepth 100000 in
set_option maxHeartbeats 4000000 in
theorem turned_no11 (st : Nat) (ta tf tc tb : Int) (X : List ByteArray) (w : World) (h64 : Sec64 X) (n0 : ¬ ta < 0) (n1 : ¬ 15 < ta) (n2 : ¬ tf < 0) (n3 : ¬ 15 < tf) (n4 : ¬ tb < 0) (hb : 512 ≤ tb) (n5 : ¬ tc < 1) (hc : 65535 < tc) :
    Calls Tryd.prog 28 #[.agg #[.int .i64 ta, .int .i64 tf, .int .u32 (st : Int), .int .i64 tc, .int .i64 tb], .agg (rowS X).toArray] w fun e w' => ∃ X', e = .returned (.agg (rowS X').toArray) ∧ Sec64 X' ∧ Below w.heap.size w w' := by
  obtain ⟨V, hV, hTb, hX, hR, hB⟩ := three_boxes w 61 39 39 [.int .i64 ta, .int .i64 tf, .int .u32 (st : Int), .int .i64 tc, .int .i64 tb] (rowS X) cells16
  have t0 : V.cell? ⟨w.heap.size, 0, none⟩ = some (.int .i64 ta) := hTb.cell 0
  have t1 : V.cell? ⟨w.heap.size, 1, none⟩ = some (.int .i64 tf) := hTb.cell 1
  have t2 : V.cell? ⟨w.heap.size, 2, none⟩ = some (.int .u32 (st : Int)) := hTb.cell 2
  have t3 : V.cell? ⟨w.heap.size, 3, none⟩ = some (.int .i64 tc) := hTb.cell 3
  have t4 : V.cell? ⟨w.heap.size, 4, none⟩ = some (.int .i64 tb) := hTb.cell 4
  replace hX := Lib.hid hX
  replace hR := Lib.hid hR
  replace hB := Lib.hid hB
  go_enter Tryd.func28, Tryd.ntmps28
  go_upto_region 1 with fail
  rw [← show V = _ from hV]
  clear hV
  go_wp2_with (with_reducible refine zLoad 39 _ rfl ?_)
  refine Lib.hid ?_
  refine wpList_load_mid rfl 39 _ rfl (w.heap.size + 1) 0 rfl (rowS X) _ hX.out.range Tryd.underlying39 rfl (by rw [rowS_len, h64.len]; exact sizeSec) ?_
  go_wp2_with (with_reducible refine zStore 39 _ _ rfl ?_)
  refine Lib.hid ?_
  refine wpList_store_mid rfl 39 _ _ rfl (w.heap.size + 1 + 1) 0 (rowS X).toArray rfl rfl (by rw [rowS16 h64]; exact hR.out.there 0 16 (Nat.le_refl 16)) (by rw [rowS16 h64]; exact sizeSec) (all_oneCell_toArray (rowS_one _)) ?_
  go_wp2_with fail
  have hfin := whole_all hR.out (vs := rowS X) (by rw [rowS_len, h64.len]; rfl)
  exact bodyPost_ret (result_cell Tryd.results28 rfl hfin.range Tryd.underlying39 rfl (by rw [rowS_len, h64.len]; exact sizeSec)) rfl ⟨X, rfl, h64, below_store hB.out (by omega) (Nat.le_refl _) 0 _⟩
set_option maxRecDepth 100000 in
set_option maxHeartbeats 4000000 in
theorem turned_seal0 (st : Nat) (ta tf tc tb : Int) (X : List ByteArray) (w : World) (h64 : Sec64 X) (hst : st < 4294967296) (n0 : ¬ ta < 0) (n1 : ¬ 15 < ta) (n2 : ¬ tf < 0) (n3 : ¬ 15 < tf) (hb : tb < 0) (n5 : ¬ tc < 1) (n6 : ¬ 65535 < tc) :
    Calls Tryd.prog 28 #[.agg #[.int .i64 ta, .int .i64 tf, .int .u32 (st : Int), .int .i64 tc, .int .i64 tb], .agg (rowS X).toArray] w fun e w' => ∃ X', e = .returned (.agg (rowS X').toArray) ∧ Sec64 X' ∧ Below w.heap.size w w' := by
  obtain ⟨ka, rfl⟩ : ∃ n : Nat, ta = n := ⟨ta.toNat, by omega⟩
  obtain ⟨kf, rfl⟩ : ∃ n : Nat, tf = n := ⟨tf.toNat, by omega⟩
  obtain ⟨c, rfl⟩ : ∃ n : Nat, tc = n := ⟨tc.toNat, by omega⟩
  have hXl := h64.len
  obtain ⟨y, hy⟩ : ∃ y, X[kf]? = some y := ⟨_, List.getElem?_eq_getElem (by omega)⟩
  obtain ⟨ya, hya⟩ : ∃ y, X[ka]? = some y := ⟨_, List.getElem?_eq_getElem (by omega)⟩
  have hyz := h64.at_ hy
  obtain ⟨D, hD⟩ : ∃ D, Hid (y.extract 6 58 = D) := ⟨_, Lib.hid rfl⟩
  have hDz : D.size = 52 := by rw [← hD.out]; simp; omega
  have hsl := Lib.hid (fun W => rseal_any st c D W hst (by omega) (by omega))
  have hsz : (B (sealL st c D.data.toList)).size = 64 := by rw [B_size, sealL_len, Array.length_toList, show D.data.size = D.size from rfl, hDz]
  obtain ⟨E, hE⟩ : ∃ E, Hid (B (sealL st c D.data.toList) = E) := ⟨_, Lib.hid rfl⟩
  rw [hE.out] at hsl hsz
  have hN := h64.set ka E hsz
  have hset : (rowS X).set ka (.string E) = rowS (X.set ka E) := by rw [rowS_set]
  obtain ⟨V, hV, hTb, hX, hR, hB⟩ := three_boxes w 61 39 39 [.int .i64 (ka : Int), .int .i64 (kf : Int), .int .u32 (st : Int), .int .i64 (c : Int), .int .i64 tb] (rowS X) cells16
  have t0 : V.cell? ⟨w.heap.size, 0, none⟩ = some (.int .i64 (ka : Int)) := hTb.cell 0
  have t1 : V.cell? ⟨w.heap.size, 1, none⟩ = some (.int .i64 (kf : Int)) := hTb.cell 1
  have t2 : V.cell? ⟨w.heap.size, 2, none⟩ = some (.int .u32 (st : Int)) := hTb.cell 2
  have t3 : V.cell? ⟨w.heap.size, 3, none⟩ = some (.int .i64 (c : Int)) := hTb.cell 3
  have t4 : V.cell? ⟨w.heap.size, 4, none⟩ = some (.int .i64 tb) := hTb.cell 4
  replace hX := Lib.hid hX
  replace hR := Lib.hid hR
  replace hB := Lib.hid hB
  have x0 : V.cell? ⟨w.heap.size + 1, kf, none⟩ = some (.string y) := (hX.out.cell kf).trans (rowS_at hy)
  have hka : (ka : Int) < 16 := by omega
  have hkf : (kf : Int) < 16 := by omega
  have hDe : y.extract 6 58 = D := hD.out
  clear hy hD hE
  go_enter Tryd.func28, Tryd.ntmps28
  go_upto_region 1 with fail
  rw [← show V = _ from hV]
  clear hV
  go_upto_region 8 with fail
  rw [ldOp_eq]
  go_region_held3 (fun w' => w'.cell? ⟨w.heap.size, 0, none⟩ = some (.int .i64 (ka : Int)) ∧ w'.cell? ⟨w.heap.size, 1, none⟩ = some (.int .i64 (kf : Int)) ∧ w'.cell? ⟨w.heap.size, 2, none⟩ = some (.int .u32 (st : Int)) ∧ w'.cell? ⟨w.heap.size, 3, none⟩ = some (.int .i64 (c : Int))) (go_keep) (first | (go_at_call 64; (try rw [hDe]); (with_reducible refine (hsl.out _).mono ?_); rintro _ w5 ⟨rfl, hb5⟩; have d0 := keepZ hb5 (a := ⟨w.heap.size, 0, none⟩) (v := .int .i64 (ka : Int)) (by assumption); have d1 := keepZ hb5 (a := ⟨w.heap.size, 1, none⟩) (v := .int .i64 (kf : Int)) (by assumption); have d2 := keepZ hb5 (a := ⟨w.heap.size, 2, none⟩) (v := .int .u32 (st : Int)) (by assumption); have d3 := keepZ hb5 (a := ⟨w.heap.size, 3, none⟩) (v := .int .i64 (c : Int)) (by assumption); have hb5' : Below V.heap.size V w5 := grew (drewBelow V) hb5; have hX5 := hX.out.below hb5' hX.out.lt; have x5 : w5.cell? ⟨w.heap.size + 1, ka, none⟩ = some (.string ya) := (hX5.cell ka).trans (rowS_at hya); have z5 := hX5.frozen ka))
  have hR5 := hR.out.below hb5' hR.out.lt
  have hX6 : Whole (w5.setCell ⟨w.heap.size + 1, ka, none⟩ (.string E)) (w.heap.size + 1) 39 (rowS (X.set ka E)) := by
    have h := hX5.store ka [.string E] (by rw [rowS_len, hXl]; simp; omega)
    rw [set_at _ _ _ (by rw [rowS_len, hXl]; omega), hset] at h
    exact h
  have hR6 := hR5.far (c := w.heap.size + 1) (by omega) ka [.string E]
  have hB6 := below_store (grew hB.out hb5') (c := w.heap.size + 1) (by omega) (Nat.le_refl _) ka [.string E]
  change Whole (w5.setCell ⟨w.heap.size + 1, ka, none⟩ (.string E)) _ _ _ at hR6
  change Below _ _ (w5.setCell ⟨w.heap.size + 1, ka, none⟩ (.string E)) at hB6
  generalize w5.setCell ⟨w.heap.size + 1, ka, none⟩ (.string E) = w6 at *
  replace hX6 := Lib.hid hX6
  replace hR6 := Lib.hid hR6
  replace hB6 := Lib.hid hB6
  clear hX5 x5 z5
  go_wp2_with (with_reducible refine zLoad 39 _ rfl ?_)
  refine Lib.hid ?_
  refine wpList_load_mid rfl 39 _ rfl (w.heap.size + 1) 0 rfl (rowS (X.set ka E)) _ hX6.out.range Tryd.underlying39 rfl (by rw [rowS_len, hN.len]; exact sizeSec) ?_
  go_wp2_with (with_reducible refine zStore 39 _ _ rfl ?_)
  refine Lib.hid ?_
  refine wpList_store_mid rfl 39 _ _ rfl (w.heap.size + 1 + 1) 0 (rowS (X.set ka E)).toArray rfl rfl (by rw [rowS16 hN]; exact hR6.out.there 0 16 (Nat.le_refl 16)) (by rw [rowS16 hN]; exact sizeSec) (all_oneCell_toArray (rowS_one _)) ?_
  go_wp2_with fail
  have hfin := whole_all hR6.out (vs := rowS (X.set ka E)) (by rw [rowS_len, hN.len]; rfl)
  exact bodyPost_ret (result_cell Tryd.results28 rfl hfin.range Tryd.underlying39 rfl (by rw [rowS_len, hN.len]; exact sizeSec)) rfl ⟨(X.set ka E), rfl, hN, below_store hB6.out (by omega) (Nat.le_refl _) 0 _⟩
set_option maxRecDepth 100000 in
set_option maxHeartbeats 4000000 in
theorem turned_seal1 (st : Nat) (ta tf tc tb : Int) (X : List ByteArray) (w : World) (h64 : Sec64 X) (hst : st < 4294967296) (n0 : ¬ ta < 0) (n1 : ¬ 15 < ta) (n2 : ¬ tf < 0) (n3 : ¬ 15 < tf) (n4 : ¬ tb < 0) (hb : 512 ≤ tb) (n5 : ¬ tc < 1) (n6 : ¬ 65535 < tc) :
    Calls Tryd.prog 28 #[.agg #[.int .i64 ta, .int .i64 tf, .int .u32 (st : Int), .int .i64 tc, .int .i64 tb], .agg (rowS X).toArray] w fun e w' => ∃ X', e = .returned (.agg (rowS X').toArray) ∧ Sec64 X' ∧ Below w.heap.size w w' := by
  obtain ⟨ka, rfl⟩ : ∃ n : Nat, ta = n := ⟨ta.toNat, by omega⟩
  obtain ⟨kf, rfl⟩ : ∃ n : Nat, tf = n := ⟨tf.toNat, by omega⟩
  obtain ⟨c, rfl⟩ : ∃ n : Nat, tc = n := ⟨tc.toNat, by omega⟩
  have hXl := h64.len
  obtain ⟨y, hy⟩ : ∃ y, X[kf]? = some y := ⟨_, List.getElem?_eq_getElem (by omega)⟩
  obtain ⟨ya, hya⟩ : ∃ y, X[ka]? = some y := ⟨_, List.getElem?_eq_getElem (by omega)⟩
  have hyz := h64.at_ hy
  obtain ⟨D, hD⟩ : ∃ D, Hid (y.extract 6 58 = D) := ⟨_, Lib.hid rfl⟩
  have hDz : D.size = 52 := by rw [← hD.out]; simp; omega
  have hsl := Lib.hid (fun W => rseal_any st c D W hst (by omega) (by omega))
  have hsz : (B (sealL st c D.data.toList)).size = 64 := by rw [B_size, sealL_len, Array.length_toList, show D.data.size = D.size from rfl, hDz]
  obtain ⟨E, hE⟩ : ∃ E, Hid (B (sealL st c D.data.toList) = E) := ⟨_, Lib.hid rfl⟩
  rw [hE.out] at hsl hsz
  have hN := h64.set ka E hsz
  have hset : (rowS X).set ka (.string E) = rowS (X.set ka E) := by rw [rowS_set]
  obtain ⟨V, hV, hTb, hX, hR, hB⟩ := three_boxes w 61 39 39 [.int .i64 (ka : Int), .int .i64 (kf : Int), .int .u32 (st : Int), .int .i64 (c : Int), .int .i64 tb] (rowS X) cells16
  have t0 : V.cell? ⟨w.heap.size, 0, none⟩ = some (.int .i64 (ka : Int)) := hTb.cell 0
  have t1 : V.cell? ⟨w.heap.size, 1, none⟩ = some (.int .i64 (kf : Int)) := hTb.cell 1
  have t2 : V.cell? ⟨w.heap.size, 2, none⟩ = some (.int .u32 (st : Int)) := hTb.cell 2
  have t3 : V.cell? ⟨w.heap.size, 3, none⟩ = some (.int .i64 (c : Int)) := hTb.cell 3
  have t4 : V.cell? ⟨w.heap.size, 4, none⟩ = some (.int .i64 tb) := hTb.cell 4
  replace hX := Lib.hid hX
  replace hR := Lib.hid hR
  replace hB := Lib.hid hB
  have x0 : V.cell? ⟨w.heap.size + 1, kf, none⟩ = some (.string y) := (hX.out.cell kf).trans (rowS_at hy)
  have hka : (ka : Int) < 16 := by omega
  have hkf : (kf : Int) < 16 := by omega
  have hDe : y.extract 6 58 = D := hD.out
  clear hy hD hE
  go_enter Tryd.func28, Tryd.ntmps28
  go_upto_region 1 with fail
  rw [← show V = _ from hV]
  clear hV
  go_upto_region 8 with fail
  rw [ldOp_eq]
  go_region_held3 (fun w' => w'.cell? ⟨w.heap.size, 0, none⟩ = some (.int .i64 (ka : Int)) ∧ w'.cell? ⟨w.heap.size, 1, none⟩ = some (.int .i64 (kf : Int)) ∧ w'.cell? ⟨w.heap.size, 2, none⟩ = some (.int .u32 (st : Int)) ∧ w'.cell? ⟨w.heap.size, 3, none⟩ = some (.int .i64 (c : Int))) (go_keep) (first | (go_at_call 64; (try rw [hDe]); (with_reducible refine (hsl.out _).mono ?_); rintro _ w5 ⟨rfl, hb5⟩; have d0 := keepZ hb5 (a := ⟨w.heap.size, 0, none⟩) (v := .int .i64 (ka : Int)) (by assumption); have d1 := keepZ hb5 (a := ⟨w.heap.size, 1, none⟩) (v := .int .i64 (kf : Int)) (by assumption); have d2 := keepZ hb5 (a := ⟨w.heap.size, 2, none⟩) (v := .int .u32 (st : Int)) (by assumption); have d3 := keepZ hb5 (a := ⟨w.heap.size, 3, none⟩) (v := .int .i64 (c : Int)) (by assumption); have hb5' : Below V.heap.size V w5 := grew (drewBelow V) hb5; have hX5 := hX.out.below hb5' hX.out.lt; have x5 : w5.cell? ⟨w.heap.size + 1, ka, none⟩ = some (.string ya) := (hX5.cell ka).trans (rowS_at hya); have z5 := hX5.frozen ka))
  have hR5 := hR.out.below hb5' hR.out.lt
  have hX6 : Whole (w5.setCell ⟨w.heap.size + 1, ka, none⟩ (.string E)) (w.heap.size + 1) 39 (rowS (X.set ka E)) := by
    have h := hX5.store ka [.string E] (by rw [rowS_len, hXl]; simp; omega)
    rw [set_at _ _ _ (by rw [rowS_len, hXl]; omega), hset] at h
    exact h
  have hR6 := hR5.far (c := w.heap.size + 1) (by omega) ka [.string E]
  have hB6 := below_store (grew hB.out hb5') (c := w.heap.size + 1) (by omega) (Nat.le_refl _) ka [.string E]
  change Whole (w5.setCell ⟨w.heap.size + 1, ka, none⟩ (.string E)) _ _ _ at hR6
  change Below _ _ (w5.setCell ⟨w.heap.size + 1, ka, none⟩ (.string E)) at hB6
  generalize w5.setCell ⟨w.heap.size + 1, ka, none⟩ (.string E) = w6 at *
  replace hX6 := Lib.hid hX6
  replace hR6 := Lib.hid hR6
  replace hB6 := Lib.hid hB6
  clear hX5 x5 z5
  go_wp2_with (with_reducible refine zLoad 39 _ rfl ?_)
  refine Lib.hid ?_
  refine wpList_load_mid rfl 39 _ rfl (w.heap.size + 1) 0 rfl (rowS (X.set ka E)) _ hX6.out.range Tryd.underlying39 rfl (by rw [rowS_len, hN.len]; exact sizeSec) ?_
  go_wp2_with (with_reducible refine zStore 39 _ _ rfl ?_)
  refine Lib.hid ?_
  refine wpList_store_mid rfl 39 _ _ rfl (w.heap.size + 1 + 1) 0 (rowS (X.set ka E)).toArray rfl rfl (by rw [rowS16 hN]; exact hR6.out.there 0 16 (Nat.le_refl 16)) (by rw [rowS16 hN]; exact sizeSec) (all_oneCell_toArray (rowS_one _)) ?_
  go_wp2_with fail
  have hfin := whole_all hR6.out (vs := rowS (X.set ka E)) (by rw [rowS_len, hN.len]; rfl)
  exact bodyPost_ret (result_cell Tryd.results28 rfl hfin.range Tryd.underlying39 rfl (by rw [rowS_len, hN.len]; exact sizeSec)) rfl ⟨(X.set ka E), rfl, hN, below_store hB6.out (by omega) (Nat.le_refl _) 0 _⟩
set_option maxRecDepth 100000 in
set_option maxHeartbeats 4000000 in
theorem turned_bit (st : Nat) (ta tf tc tb : Int) (X : List ByteArray) (w : World) (h64 : Sec64 X) (n0 : ¬ ta < 0) (n1 : ¬ 15 < ta) (n2 : ¬ tf < 0) (n3 : ¬ 15 < tf) (n4 : ¬ tb < 0) (n5 : tb < 512) :
    Calls Tryd.prog 28 #[.agg #[.int .i64 ta, .int .i64 tf, .int .u32 (st : Int), .int .i64 tc, .int .i64 tb], .agg (rowS X).toArray] w fun e w' => ∃ X', e = .returned (.agg (rowS X').toArray) ∧ Sec64 X' ∧ Below w.heap.size w w' := by
  obtain ⟨ka, rfl⟩ : ∃ n : Nat, ta = n := ⟨ta.toNat, by omega⟩
  obtain ⟨n, rfl⟩ : ∃ n : Nat, tb = n := ⟨tb.toNat, by omega⟩
  have hXl := h64.len
  obtain ⟨E, hy⟩ : ∃ y, X[ka]? = some y := ⟨_, List.getElem?_eq_getElem (by omega)⟩
  have hEz := h64.at_ hy
  obtain ⟨V, hV, hTb, hX, hR, hB⟩ := three_boxes w 61 39 39 [.int .i64 (ka : Int), .int .i64 tf, .int .u32 (st : Int), .int .i64 tc, .int .i64 (n : Int)] (rowS X) cells16
  have t0 : V.cell? ⟨w.heap.size, 0, none⟩ = some (.int .i64 (ka : Int)) := hTb.cell 0
  have t1 : V.cell? ⟨w.heap.size, 1, none⟩ = some (.int .i64 tf) := hTb.cell 1
  have t2 : V.cell? ⟨w.heap.size, 2, none⟩ = some (.int .u32 (st : Int)) := hTb.cell 2
  have t3 : V.cell? ⟨w.heap.size, 3, none⟩ = some (.int .i64 tc) := hTb.cell 3
  have t4 : V.cell? ⟨w.heap.size, 4, none⟩ = some (.int .i64 (n : Int)) := hTb.cell 4
  replace hX := Lib.hid hX
  replace hR := Lib.hid hR
  replace hB := Lib.hid hB
  have x0 : V.cell? ⟨w.heap.size + 1, ka, none⟩ = some (.string E) := (hX.out.cell ka).trans (rowS_at hy)
  have hka : (ka : Int) < 16 := by omega
  have hEs : E.size ≤ 1000 := by omega
  have hjE : n / 8 < E.size := by omega
  have kb := fun wx : World => run_bytes_of_string (P := Tryd.prog) wx 9 108 5 E Tryd.underlying9 Tryd.underlying108 Tryd.underlying5
  replace hy := Lib.hid hy
  replace hEz := Lib.hid hEz
  go_enter Tryd.func28, Tryd.ntmps28
  go_upto_region 1 with fail
  rw [← show V = _ from hV]
  clear hV
  go_wp2_with fail
  clear kb
  have hrow : ByteRow (V.alloc (.cells (bytesRow E (grownCap V E.size 0 5)) 5 ((bytesRow E (grownCap V E.size 0 5)).size, (bytesRow E (grownCap V E.size 0 5)).size + 1))).drew V.heap.size E.data.toList := ByteRow.made V E (grownCap V E.size 0 5) 5
  have hbel : Below V.heap.size V (V.alloc (.cells (bytesRow E (grownCap V E.size 0 5)) 5 ((bytesRow E (grownCap V E.size 0 5)).size, (bytesRow E (grownCap V E.size 0 5)).size + 1))).drew := ((Below.refl _ V).alloc (Nat.le_refl _) _).drew
  generalize (V.alloc (.cells (bytesRow E (grownCap V E.size 0 5)) 5 ((bytesRow E (grownCap V E.size 0 5)).size, (bytesRow E (grownCap V E.size 0 5)).size + 1))).drew = w1 at hrow hbel ⊢
  generalize grownCap V E.size 0 5 = cap
  have hlen : E.data.toList.length = E.size := by simp
  have hj := hjE
  obtain ⟨hc, hf⟩ := hrow (n / 8) (by rw [hlen]; exact hj)
  have hbt := bt_lt E.data.toList (n / 8)
  have hp2 : (2 : Nat) ^ (n % 8) < 256 := by
    have := Nat.pow_le_pow_right (n := 2) (by omega) (show n % 8 ≤ 7 from by omega)
    omega
  have hp1 : 1 ≤ (2 : Nat) ^ (n % 8) := Nat.one_le_two_pow
  have hXo : bits BinOp.xor IntKind.u8 ((bt E.data.toList (n / 8) : Nat) : Int) (2 ^ (n % 8) % 256) = ((bt E.data.toList (n / 8) ^^^ 2 ^ (n % 8) : Nat) : Int) := by
    rw [← two_pow_cast, show ((2 ^ (n % 8) : Nat) : Int) % 256 = ((2 ^ (n % 8) : Nat) : Int) from by omega]
    exact u8_xor_nat _ _ hbt hp2
  have hd : bt E.data.toList (n / 8) ^^^ 2 ^ (n % 8) < 256 := Nat.xor_lt_two_pow (n := 8) hbt hp2
  generalize bt E.data.toList (n / 8) ^^^ 2 ^ (n % 8) = dd at hXo hd
  have hT1 := hTb.below hbel hTb.lt
  have s0 : w1.cell? ⟨w.heap.size, 0, none⟩ = some (.int .i64 (ka : Int)) := hT1.cell 0
  have s4 : w1.cell? ⟨w.heap.size, 4, none⟩ = some (.int .i64 (n : Int)) := hT1.cell 4
  have hX1 := Lib.hid (hX.out.below hbel hX.out.lt)
  have hR1 := Lib.hid (hR.out.below hbel hR.out.lt)
  have hB1 := Lib.hid (grew hB.out hbel)
  have hneV : w.heap.size ≠ V.heap.size := by have := hB.out.size; have := hTb.lt; omega
  have hneX : w.heap.size + 1 ≠ V.heap.size := by have := hX.out.lt; omega
  have hneR : w.heap.size + 1 + 1 ≠ V.heap.size := by have := hR.out.lt; omega
  replace hlen := Lib.hid hlen
  replace hrow := Lib.hid hrow
  clear hp1 hp2 t0 t1 t2 t3 t4 x0 hT1 hTb
  have hj2 : ((n / 8 : Nat) : Int) < (E.size : Int) := by omega
  go_region
  have hrow2 := (hrow.out.set (n / 8) (by rw [hlen.out]; exact hj) (dd : Int) (by omega) (by omega)).drew
  rw [Int.toNat_natCast] at hrow2
  have hX2 : Whole (w1.setCell ⟨V.heap.size, n / 8, none⟩ (.int .u8 (dd : Int))).drew (w.heap.size + 1) 39 (rowS X) := (hX1.out.far hneX (n / 8) [.int .u8 (dd : Int)])
  have hR2 : Whole (w1.setCell ⟨V.heap.size, n / 8, none⟩ (.int .u8 (dd : Int))).drew (w.heap.size + 1 + 1) 39 cells16 := (hR1.out.far hneR (n / 8) [.int .u8 (dd : Int)])
  have hB2 : Below w.heap.size w (w1.setCell ⟨V.heap.size, n / 8, none⟩ (.int .u8 (dd : Int))).drew := (below_store hB1.out (c := V.heap.size) (by have := hB.out.size; omega) (Nat.le_refl _) (n / 8) [.int .u8 (dd : Int)]).drew
  have s0' : (w1.setCell ⟨V.heap.size, n / 8, none⟩ (.int .u8 (dd : Int))).drew.cell? ⟨w.heap.size, 0, none⟩ = some (.int .i64 (ka : Int)) := by
    have : (w1.setCell ⟨V.heap.size, n / 8, none⟩ (.int .u8 (dd : Int))).cell? ⟨w.heap.size, 0, none⟩ = w1.cell? ⟨w.heap.size, 0, none⟩ := cell_far (vs := [.int .u8 (dd : Int)]) hneV
    exact this.trans s0
  clear hXo hc hf hX1 hR1 hB1 s0 s4
  generalize (w1.setCell ⟨V.heap.size, n / 8, none⟩ (.int .u8 (dd : Int))).drew = w8 at *
  have hcv := hrow2.back (P := Tryd.prog) 108 9 5 cap E.size (by rw [List.length_set, hlen.out]) Tryd.underlying108 Tryd.underlying5 Tryd.underlying9
  obtain ⟨F, hF⟩ : ∃ F, Hid (B (E.data.toList.set (n / 8) (UInt8.ofNat dd)) = F) := ⟨_, Lib.hid rfl⟩
  have hFz : F.size = 64 := by rw [← hF.out, B_size, List.length_set, hlen.out, hEz.out]
  have hN := h64.set ka F hFz
  have hset : (rowS X).set ka (.string F) = rowS (X.set ka F) := by rw [rowS_set]
  rw [hF.out] at hcv
  have x8 : w8.cell? ⟨w.heap.size + 1, ka, none⟩ = some (.string E) := (hX2.cell ka).trans (rowS_at hy.out)
  have z8 := hX2.frozen ka
  have hX6 : Whole (w8.setCell ⟨w.heap.size + 1, ka, none⟩ (.string F)) (w.heap.size + 1) 39 (rowS (X.set ka F)) := by
    have h := hX2.store ka [.string F] (by rw [rowS_len, hXl]; simp; omega)
    rw [set_at _ _ _ (by rw [rowS_len, hXl]; omega), hset] at h
    exact h
  have hR6 : Whole (w8.setCell ⟨w.heap.size + 1, ka, none⟩ (.string F)) (w.heap.size + 1 + 1) 39 cells16 := hR2.far (c := w.heap.size + 1) (by omega) ka [.string F]
  have hB6 : Below w.heap.size w (w8.setCell ⟨w.heap.size + 1, ka, none⟩ (.string F)) := below_store hB2 (c := w.heap.size + 1) (by omega) (Nat.le_refl _) ka [.string F]
  replace hX6 := Lib.hid hX6
  replace hR6 := Lib.hid hR6
  replace hB6 := Lib.hid hB6
  clear hX2 hR2 hB2 hrow2
  go_wp2_with (with_reducible refine zLoad 39 _ rfl ?_)
  refine Lib.hid ?_
  refine wpList_load_mid rfl 39 _ rfl (w.heap.size + 1) 0 rfl (rowS (X.set ka F)) _ hX6.out.range Tryd.underlying39 rfl (by rw [rowS_len, hN.len]; exact sizeSec) ?_
  go_wp2_with (with_reducible refine zStore 39 _ _ rfl ?_)
  refine Lib.hid ?_
  refine wpList_store_mid rfl 39 _ _ rfl (w.heap.size + 1 + 1) 0 (rowS (X.set ka F)).toArray rfl rfl (by rw [rowS16 hN]; exact hR6.out.there 0 16 (Nat.le_refl 16)) (by rw [rowS16 hN]; exact sizeSec) (all_oneCell_toArray (rowS_one _)) ?_
  go_wp2_with fail
  have hfin := whole_all hR6.out (vs := rowS (X.set ka F)) (by rw [rowS_len, hN.len]; rfl)
  exact bodyPost_ret (result_cell Tryd.results28 rfl hfin.range Tryd.underlying39 rfl (by rw [rowS_len, hN.len]; exact sizeSec)) rfl ⟨(X.set ka F), rfl, hN, below_store hB6.out (by omega) (Nat.le_refl _) 0 _⟩
/-- In all ways. -/
theorem turned_any (st : Nat) (ta tf tc tb : Int) (X : List ByteArray) (w : World) (h64 : Sec64 X) (hst : st < 4294967296) :
    Calls Tryd.prog 28 #[.agg #[.int .i64 ta, .int .i64 tf, .int .u32 (st : Int), .int .i64 tc, .int .i64 tb], .agg (rowS X).toArray] w fun e w' => ∃ X', e = .returned (.agg (rowS X').toArray) ∧ Sec64 X' ∧ Below w.heap.size w w' := by
  by_cases n0 : ta < 0
  · exact turned_out0 st ta tf tc tb X w h64 n0
  by_cases n1 : 15 < ta
  · exact turned_out1 st ta tf tc tb X w h64 n0 n1
  by_cases n2 : tf < 0
  · exact turned_out2 st ta tf tc tb X w h64 n0 n1 n2
  by_cases n3 : 15 < tf
  · exact turned_out3 st ta tf tc tb X w h64 n0 n1 n2 n3
  by_cases n4 : tb < 0
  · by_cases n5 : tc < 1
    · exact turned_no00 st ta tf tc tb X w h64 n0 n1 n2 n3 n4 n5
    by_cases n6 : 65535 < tc
    · exact turned_no01 st ta tf tc tb X w h64 n0 n1 n2 n3 n4 n5 n6
    exact turned_seal0 st ta tf tc tb X w h64 hst n0 n1 n2 n3 n4 n5 n6
  by_cases n7 : 512 ≤ tb
  · by_cases n5 : tc < 1
    · exact turned_no10 st ta tf tc tb X w h64 n0 n1 n2 n3 n4 n7 n5
    by_cases n6 : 65535 < tc
    · exact turned_no11 st ta tf tc tb X w h64 n0 n1 n2 n3 n4 n7 n5 n6
    exact turned_seal1 st ta tf tc tb X w h64 hst n0 n1 n2 n3 n4 n7 n5 n6
  exact turned_bit st ta tf tc tb X w h64 n0 n1 n2 n3 n4 (by omega)
end Go.Proofs.YtlgoepbfdldgnaaDoor.W
end
